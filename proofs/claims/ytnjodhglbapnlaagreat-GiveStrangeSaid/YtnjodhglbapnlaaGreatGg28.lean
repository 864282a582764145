import Derived.Test.YtnjodhglbapnlaaGreatGg27
import Derived.Test.YtnjodhglbapnlaaGreatGg26
set_option maxRecDepth 100000
set_option maxHeartbeats 16000000
namespace Go.Proofs.YtnjodhglbapnlaaGreat
open Go.RowKit
attribute [local go_sem] Oper.semAt_some
def yfc (w : World) (p : Nat) (v : GV) (S : Value) (e : Ending) (w' : World) : Prop :=
 ∃ S' S1 M, e = .returned S' ∧ Mail w' w.heap.size S' v.next.2 M ∧ VM w' p v.next.1 S1 ∧ (∀ q, S1.ownBlock = some q → S.ownBlock = some q) ∧ Touch (vF p S) w w'
theorem ykz {w : World} {b : Nat} {cs : Array Value} {T : TypeId} (h : w.heap[b]? = some (.cells cs T)) (i : Nat) : w.frozen? ⟨b, i, none⟩ = false := by simp [World.frozen?, h]
theorem yaac {w : World} {q base size : Nat} {cs : Array Value} {T : TypeId} (h : w.heap[q]? = some (.cells cs T)) (hs : cs.size = size) (hb : base ≤ q) : w.ownsRow base T size (.slice (some ⟨q, 0, none⟩) 1 1) 1 cs.toList :=
 ⟨by simp [hs], .inr ⟨q, 1, cs, rfl, hb, h, Nat.le_refl _, by unfold maxLen; omega, by simp [hs], by rw [List.take_of_length_le (by simp [hs])]⟩⟩
theorem yk0 {w : World} {B q : Nat} {l : LV} {a b : Value} (h : w.heap[q]? = some (.cells (LR.cells ⟨l, a, b⟩) 49)) (hb : B ≤ q) (h1 : SlAt w a l.ti) (h2 : SlAt w b l.li) (h3 : ∀ z ∈ LR.blocks ⟨l, a, b⟩, B ≤ z ∧ z < w.heap.size) : Mail w B (.slice (some ⟨q, 0, none⟩) 1 1) [l] (q :: LR.blocks ⟨l, a, b⟩) := by
 refine ⟨[⟨l, a, b⟩], rfl, ?_, fun r hr => ?_, fun z hz => ?_, fun z hz => ?_⟩
 ·have := yaac (base := B) h rfl hb
  rw [yjj]
  exact this
 ·obtain rfl := List.mem_singleton.1 hr
  exact ⟨h1, h2, fun z hz => List.mem_cons_of_mem _ hz⟩
 ·have : some q = some z := hz
  simp at this
  simp [this]
 ·rcases List.mem_cons.1 hz with rfl | y
  ·exact ⟨hb, yca h⟩
  ·exact h3 z y
theorem yaad {w : World} {A : Option Addr} {c n : Nat} {base : Nat} {ms : List Item} (hn : ms.length = n) (h : w.ownsRow base 96 2 (.slice A n c) n (yaa ms)) : SlAt w (.slice A n c) ms := by
 subst hn
 obtain ⟨A1, c1, e, h1, h2⟩ := ypo h
 injection e with e1 _ e3
 subst e1 e3
 exact ⟨A, c, rfl, h1, h2, ypp rfl h⟩
theorem yg5 (w : World) : SlAt w (.slice none 0 0) [] := ⟨none, 0, rfl, by simp, by unfold maxLen; omega, 0, 0, fun i hi => by simp at hi⟩
def NxS (V : World) (p b2 : Nat) (v : GV) (S : Value) (N0 : Nat) (Y : List Nat) : Prop :=
 ∃ q A c, v.ch * 4 < v.its.length ∧ VM V p (v.sent 2 (v.ch + 1)) S ∧ V.cell? ⟨b2, 0, none⟩ = some (.slice (some ⟨q, 0, none⟩) 1 1) ∧
  V.heap[q]? = some (.cells (LR.cells ⟨v.chunk (v.ch + 1) (piece v.its v.ch), .slice none 0 0, .slice A (piece v.its v.ch).length c⟩) 49) ∧
  V.ownsRow 0 96 2 (.slice A (piece v.its v.ch).length c) (piece v.its v.ch).length (yaa (piece v.its v.ch)) ∧ N0 ≤ q ∧ (∀ z, (Value.slice A (piece v.its v.ch).length c).ownBlock = some z → N0 ≤ z) ∧
  ∀ z, (z = p ∨ z = b2 ∨ z = q ∨ S.ownBlock = some z ∨ (Value.slice A (piece v.its v.ch).length c).ownBlock = some z) → z ∈ Y
theorem ypr (p b2 : Nat) (v : GV) (S : Value) (N0 : Nat) : Abid (NxS · p b2 v S N0 ·) := by
 rintro w w1 Y G ⟨q, A, c, h0, h1, h2, h3, h4, h5, h6, h7⟩ t hn
 refine ⟨q, A, c, h0, h1.touch t (fun z hz => ?_), (t.cell (World.block_lt_of_cell? w _ h2) (hn b2 (h7 b2 (.inr (.inl rfl))))).trans h2, (t.block q (yca h3) (hn q (h7 q (.inr (.inr (.inl rfl)))))).trans h3, t.row h4 (fun z hz => hn z (h7 z (.inr (.inr (.inr (.inr hz)))))), h5, h6, h7⟩
 rcases List.mem_cons.1 hz with rfl | y
 ·exact hn z (h7 z (.inl rfl))
 ·exact hn z (h7 z (.inr (.inr (.inr (.inl (by simpa using y))))))
theorem yaae {Z Y : List Nat} {V : World} (h : ∀ q ∈ Z ++ Y, q < V.heap.size) : Left [] (Z ++ Y) V V Y := ⟨⟨[], Touch.refl _ _, by simp⟩, fun q hq => ⟨h q (List.mem_append_right _ hq), .inl (List.mem_append_right _ hq)⟩⟩
theorem VM.sent {w : World} {p : Nat} {v : GV} {S : Value} (h : VM w p v S) (hst : v.st ≤ 2) (c : Nat) : VM ((w.setCell ⟨p, 8, none⟩ (.int .i64 (c : Nat))).setCell ⟨p, 9, none⟩ (.int .i64 2)) p (v.sent 2 c) S := by
 have t : Touch [p] w ((w.setCell ⟨p, 8, none⟩ (.int .i64 (c : Nat))).setCell ⟨p, 9, none⟩ (.int .i64 2)) := ((Touch.refl _ _).set (.inl (by simp)) _).set (.inl (by simp)) _
 refine ⟨yco (yco h.hp 8 _) 9 _, ?_, h.own, h.few, h.arc, h.wide, ⟨by show 1 ≤ 2; omega, by show 2 ≤ 5; omega⟩⟩
 rcases h.its with ⟨_, A, k, rfl, r⟩ | ⟨z, _⟩
 ·exact .inl ⟨by show 2 ≤ 2; omega, A, k, rfl, t.row r fun q hq z => h.own q hq (List.mem_singleton.1 z)⟩
 ·omega
theorem VM.promised {w : World} {p : Nat} {v : GV} {S : Value} (h : VM w p v S) : VM ((w.setCell ⟨p, 7, none⟩ (.slice none 0 0)).setCell ⟨p, 9, none⟩ (.int .i64 3)) p (v.at_ 3) (.slice none 0 0) :=
 ⟨yco (yco h.hp 7 _) 9 _, .inr ⟨Nat.le_refl _, rfl⟩, fun q hq => (by cases hq), h.few, h.arc, h.wide, ⟨by show 1 ≤ 3; omega, by show 3 ≤ 5; omega⟩⟩
theorem VM.over5 {w : World} {p : Nat} {v : GV} {S : Value} (h : VM w p v S) : VM ((w.setCell ⟨p, 7, none⟩ (.slice none 0 0)).setCell ⟨p, 9, none⟩ (.int .i64 5)) p (v.at_ 5) (.slice none 0 0) :=
 ⟨yco (yco h.hp 7 _) 9 _, .inr ⟨by show 3 ≤ 5; omega, rfl⟩, fun q hq => (by cases hq), h.few, h.arc, h.wide, ⟨by show 1 ≤ 5; omega, by show 5 ≤ 5; omega⟩⟩
theorem yaaf {V V1 w4 w7 : World} {p b1 N3 m : Nat} {v : GV} {S : Value} {Y : List Nat} {A : Option Addr} {c : Nat} (hm : (v.its.length + 3) / 4 = m) (hn : v.ch < m) (h1 : VM V1 p (v.sent 2 (v.ch + 1)) S) (tt : Touch [p] V V1) (hb4 : Below V1.heap.size V1 w4) (hb7 : Below w4.heap.size w4 w7)
  (hr : V.ownsRow 0 96 2 (.slice A (piece v.its v.ch).length c) (piece v.its v.ch).length (yaa (piece v.its v.ch))) (hZ : ∀ q ∈ (Value.slice A (piece v.its v.ch).length c).ownBlock.toList, N3 ≤ q ∧ q ∉ Y)
  (hY : ∀ q ∈ (Value.slice A (piece v.its v.ch).length c).ownBlock.toList ++ Y, q < V.heap.size) (hYm : ∀ z, (z = p ∨ z = b1 ∨ z = b1 + 1 ∨ S.ownBlock = some z) → z ∈ Y) (hN3 : b1 + 3 = N3) (hNV : N3 ≤ V.heap.size) (hp : p < b1) (hS : ∀ q, S.ownBlock = some q → q < b1) (h2 : Var w7 (b1 + 1) (.slice none 0 0)) :
  ∃ Y', Left [] ((Value.slice A (piece v.its v.ch).length c).ownBlock.toList ++ Y) V ((w7.setCell ⟨b1 + 1, 0, none⟩ (.slice (some ⟨w7.heap.size, 0, none⟩) 1 1)).alloc (.cells (LR.cells ⟨v.chunk (v.ch + 1) (piece v.its v.ch), .slice none 0 0, .slice A (piece v.its v.ch).length c⟩) 49)) Y' ∧
   (Code.ret = Code.ret ∧ NxS ((w7.setCell ⟨b1 + 1, 0, none⟩ (.slice (some ⟨w7.heap.size, 0, none⟩) 1 1)).alloc (.cells (LR.cells ⟨v.chunk (v.ch + 1) (piece v.its v.ch), .slice none 0 0, .slice A (piece v.its v.ch).length c⟩) 49)) p (b1 + 1) v S b1 Y') := by
 obtain ⟨C, hC⟩ : ∃ C, LR.cells ⟨v.chunk (v.ch + 1) (piece v.its v.ch), .slice none 0 0, .slice A (piece v.its v.ch).length c⟩ = C := ⟨_, rfl⟩
 obtain ⟨u, hu⟩ : ∃ u, Value.slice (some ⟨w7.heap.size, 0, none⟩) 1 1 = u := ⟨_, rfl⟩
 rw [hC, hu]
 have s1 := tt.size
 have s4 := hb4.size
 have s7 := hb7.size
 have hsz : ((w7.setCell ⟨b1 + 1, 0, none⟩ u).alloc (.cells C 49)).heap.size = w7.heap.size + 1 := by simp [World.setCell]
 have t7 : Touch [b1 + 1] V1 ((w7.setCell ⟨b1 + 1, 0, none⟩ u).alloc (.cells C 49)) := ((Touch.ofBelow (acc hb4 hb7)).set (.inl (by simp)) u).trans (Touch.ofBelow (F := [b1 + 1]) ((Below.refl _ _).alloc (Nat.le_refl _) _)) (fun x hx => .inl hx)
 have tf : Touch [p, b1 + 1] V ((w7.setCell ⟨b1 + 1, 0, none⟩ u).alloc (.cells C 49)) := (tt.mono (G := [p, b1 + 1]) (fun x hx => by simp at hx; simp [hx])).trans t7 (fun x hx => .inl (by simp at hx; simp [hx]))
 have hzz : ∀ z, (Value.slice A (piece v.its v.ch).length c).ownBlock = some z → N3 ≤ z ∧ z < V.heap.size := fun z hz => ⟨(hZ z (by simpa using hz)).1, hY z (List.mem_append_left _ (by simpa using hz))⟩
 refine ⟨w7.heap.size :: ((Value.slice A (piece v.its v.ch).length c).ownBlock.toList ++ Y), ⟨⟨[p, b1 + 1], tf, fun q hq => ⟨List.mem_append_right _ (hYm q ?_), by simp⟩⟩, fun q hq => ?_⟩, rfl, w7.heap.size, A, c, by omega, h1.touch t7 (fun q hq z => ?_), ?_, ?_, tf.row hr (fun q hq z => ?_), by omega, fun z hz => by have := (hzz z hz).1; omega, fun z hz => ?_⟩
 ·simp at hq
  rcases hq with rfl | rfl
  ·exact .inl rfl
  ·exact .inr (.inr (.inl rfl))
 ·rw [hsz]
  rcases List.mem_cons.1 hq with rfl | y
  ·exact ⟨by omega, .inr (by omega)⟩
  ·exact ⟨by have := hY q y; omega, .inl y⟩
 ·have z := List.mem_singleton.1 z
  rcases List.mem_cons.1 hq with rfl | y
  ·omega
  ·have := hS q (by simpa using y)
   omega
 ·have z : (w7.setCell ⟨b1 + 1, 0, none⟩ u).cell? ⟨b1 + 1, 0, none⟩ = some u := (h2.set u).val
  rw [hu]
  exact (((Below.refl _ _).alloc (Nat.le_refl _) _).cell (p := ⟨b1 + 1, 0, none⟩) (World.block_lt_of_cell? _ _ z)).trans z
 ·have z := heap_alloc_new (w7.setCell ⟨b1 + 1, 0, none⟩ u) (.cells C 49)
  have e : (w7.setCell ⟨b1 + 1, 0, none⟩ u).heap.size = w7.heap.size := by simp [World.setCell]
  rw [e] at z
  rw [hC]
  exact z
 ·have := (hzz q hq).1
  simp at z
  omega
 ·rcases hz with rfl | rfl | rfl | hz | hz
  ·exact List.mem_cons_of_mem _ (List.mem_append_right _ (hYm z (.inl rfl)))
  ·exact List.mem_cons_of_mem _ (List.mem_append_right _ (hYm _ (.inr (.inr (.inl rfl)))))
  ·exact List.mem_cons_self
  ·exact List.mem_cons_of_mem _ (List.mem_append_right _ (hYm z (.inr (.inr (.inr hz)))))
  ·exact List.mem_cons_of_mem _ (List.mem_append_left _ (by simpa using hz))
theorem yps {w w0 w3 V : World} {p b1 : Nat} {S : Value} {Y : List Nat} (hb0 : Below w.heap.size w w0) (hb3 : Below w0.heap.size w0 w3) (hQ : w.heap.size = b1) (hL : Left [] (p :: b1 :: (b1 + 1) :: S.ownBlock.toList) w3 V Y) : Touch (vF p S) w V := by
 obtain ⟨⟨G, t, hG⟩, -⟩ := hL
 refine (Touch.ofBelow (F := vF p S) (acc hb0 hb3)).trans t (fun x hx => ?_)
 have := (hG x hx).1
 simp at this
 rcases this with rfl | rfl | rfl | h
 ·exact .inl (by simp)
 ·exact .inr (by omega)
 ·exact .inr (by omega)
 ·exact .inl (by simp [h])
theorem yaag {w w0 w3 V : World} {p b1 D : Nat} {v : GV} {S : Value} {Y : List Nat} {o : Obj} (hb0 : Below w.heap.size w w0) (hb3 : Below w0.heap.size w0 w3) (hQ : w.heap.size = b1) (hL : Left [] (p :: b1 :: (b1 + 1) :: S.ownBlock.toList) w3 V Y) (h : NxS V p (b1 + 1) v S b1 Y) (hD : b1 ≤ D) (hDn : D ∉ Y) :
  ∃ q, (V.putObj D o).cell? ⟨b1 + 1, 0, none⟩ = some (.slice (some ⟨q, 0, none⟩) 1 1) ∧ yfc w p v S (.returned (.slice (some ⟨q, 0, none⟩) 1 1)) (V.putObj D o) := by
 have tD : Touch [D] V (V.putObj D o) := (Touch.refl _ _).put (.inl (by simp)) _
 have hT : Touch (vF p S) w (V.putObj D o) := (yps hb0 hb3 hQ hL).trans tD (fun x hx => .inr (by have := List.mem_singleton.1 hx; omega))
 have hn := ypr p (b1 + 1) v S b1 V (V.putObj D o) Y [D] h tD (fun q hq z => hDn (by rw [← List.mem_singleton.1 z]; exact hq))
 obtain ⟨q, A, c, h0, h1, h2, h3, h4, h5, h6, h7⟩ := hn
 have e : v.next = (v.sent 2 (v.ch + 1), [v.chunk (v.ch + 1) (piece v.its v.ch)]) := by
  unfold GV.next
  rw [if_neg (by omega)]
  rfl
 refine ⟨q, h2, _, S, q :: LR.blocks ⟨v.chunk (v.ch + 1) (piece v.its v.ch), .slice none 0 0, .slice A (piece v.its v.ch).length c⟩, rfl, ?_, ?_, fun q hq => hq, hT⟩
 ·rw [e]
  exact yk0 h3 (by omega) (yg5 _) (yaad rfl h4) (fun z hz => by
   have hz' : (Value.slice A (piece v.its v.ch).length c).ownBlock = some z := by simpa [LR.blocks, Value.ownBlock] using hz
   exact ⟨by have := h6 z hz'; omega, (h4.lt z hz').2⟩)
 ·rw [e]
  exact h1
theorem yaah {w w0 w3 V V9 w10 : World} {p b1 D : Nat} {v : GV} {S : Value} {Y : List Nat} {o : Obj} (hb0 : Below w.heap.size w w0) (hb3 : Below w0.heap.size w0 w3) (hQ : w.heap.size = b1) (hL : Left [] (p :: b1 :: (b1 + 1) :: S.ownBlock.toList) w3 V Y) (hp : p < b1) (hsz : b1 + 1 < V.heap.size) (hm : v.its.length ≤ v.ch * 4) (h1 : VM V9 p (v.at_ 3) (.slice none 0 0)) (tt : Touch [p] V V9) (hb : Below V9.heap.size V9 w10) (h2 : Var w10 (b1 + 1) (.slice none 0 0)) (hD : b1 + 3 ≤ D) (hDV : D < V.heap.size) :
  (((w10.setCell ⟨b1 + 1, 0, none⟩ (.slice (some ⟨w10.heap.size, 0, none⟩) 1 1)).alloc (.cells (yak v.commit) 49)).putObj D o).cell? ⟨b1 + 1, 0, none⟩ = some (.slice (some ⟨w10.heap.size, 0, none⟩) 1 1) ∧
   yfc w p v S (.returned (.slice (some ⟨w10.heap.size, 0, none⟩) 1 1)) (((w10.setCell ⟨b1 + 1, 0, none⟩ (.slice (some ⟨w10.heap.size, 0, none⟩) 1 1)).alloc (.cells (yak v.commit) 49)).putObj D o) := by
 obtain ⟨C, hC⟩ : ∃ C, yak v.commit = C := ⟨_, rfl⟩
 obtain ⟨u, hu⟩ : ∃ u, Value.slice (some ⟨w10.heap.size, 0, none⟩) 1 1 = u := ⟨_, rfl⟩
 rw [hC, hu]
 have sV := tt.size
 have s9 := hb.size
 have s3 := hb3.size
 have s0 := hb0.size
 have hsz10 : (w10.setCell ⟨b1 + 1, 0, none⟩ u).heap.size = w10.heap.size := by simp [World.setCell]
 have t10 : Touch [b1 + 1, D] V9 (((w10.setCell ⟨b1 + 1, 0, none⟩ u).alloc (.cells C 49)).putObj D o) := (((Touch.ofBelow hb).set (.inl (by simp)) u).trans (Touch.ofBelow (F := [b1 + 1, D]) ((Below.refl _ _).alloc (Nat.le_refl _) _)) (fun x hx => .inl hx)).put (.inl (by simp)) _
 have tf : Touch (vF p S) w (((w10.setCell ⟨b1 + 1, 0, none⟩ u).alloc (.cells C 49)).putObj D o) := (((yps hb0 hb3 hQ hL).trans tt (fun x hx => .inl (by simp at hx; simp [hx])))).trans t10 (fun x hx => by
  simp at hx
  rcases hx with rfl | rfl
  ·exact .inr (by omega)
  ·exact .inr (by omega))
 have hc : (((w10.setCell ⟨b1 + 1, 0, none⟩ u).alloc (.cells C 49)).putObj D o).cell? ⟨b1 + 1, 0, none⟩ = some u := by
  have z : (w10.setCell ⟨b1 + 1, 0, none⟩ u).cell? ⟨b1 + 1, 0, none⟩ = some u := (h2.set u).val
  have z1 := (((Below.refl _ (w10.setCell ⟨b1 + 1, 0, none⟩ u)).alloc (Nat.le_refl _) (.cells C 49)).cell (p := ⟨b1 + 1, 0, none⟩) (World.block_lt_of_cell? _ _ z)).trans z
  exact (((Touch.refl [D] _).put (.inl (by simp)) o).cell (World.block_lt_of_cell? _ _ z1) (by simp; omega)).trans z1
 refine ⟨hc, ?_⟩
 have e : v.next = (v.at_ 3, [v.commit]) := by
  unfold GV.next
  rw [if_pos hm]
 have hq : (((w10.setCell ⟨b1 + 1, 0, none⟩ u).alloc (.cells C 49)).putObj D o).heap[w10.heap.size]? = some (.cells C 49) := by
  have z := heap_alloc_new (w10.setCell ⟨b1 + 1, 0, none⟩ u) (.cells C 49)
  rw [hsz10] at z
  exact (World.putObj_heap_other (by omega)).trans z
 refine ⟨u, .slice none 0 0, w10.heap.size :: LR.blocks ⟨v.commit, .slice none 0 0, .slice none 0 0⟩, rfl, ?_, ?_, fun q hq => (by cases hq), tf⟩
 ·rw [e]
  have z := yk0 (B := w.heap.size) (l := v.commit) (a := .slice none 0 0) (b := .slice none 0 0) (hq.trans (by rw [← hC])) (by omega) (yg5 _) (yg5 _) (fun z hz => by simp [LR.blocks, Value.ownBlock] at hz)
  rw [hu] at z
  exact z
 ·rw [e]
  exact h1.touch t10 (fun q hq z => by
   have : q = p := by simpa [Value.ownBlock] using hq
   subst this
   simp at z
   omega)
theorem ypt {w : World} {p : Nat} {v : GV} {S : Value} (h : VM w p v S) (hst : v.st ≤ 2) (_hch : v.ch ≤ 1000) : Calls Tryz.prog 47 #[.pointer (some ⟨p, 0, none⟩)] w (yfc w p v S) := by
 have hL : p < w.heap.size := h.lt
 have hV1 := Var.new w (.pointer (some ⟨p, 0, none⟩)) 32
 have hV2 := Var.new (w.alloc (.cells #[.pointer (some ⟨p, 0, none⟩)] 32)) (.slice none 0 0) 33
 have hV1' := hV1.old (.cells #[.slice none 0 0] 33)
 have B0 : Below w.heap.size w ((w.alloc (.cells #[.pointer (some ⟨p, 0, none⟩)] 32)).alloc (.cells #[.slice none 0 0] 33)) := ((Below.refl _ _).alloc (Nat.le_refl _) _).alloc (by simp) _
 have h0 := h.below B0
 have hz0 : ((w.alloc (.cells #[.pointer (some ⟨p, 0, none⟩)] 32)).alloc (.cells #[.slice none 0 0] 33)).heap.size = w.heap.size + 2 := by simp
 rw [World.size_alloc] at hV2
 have HS := Lib.hid h.slt
 clear h hV1
 refine (callsIn_wide (n := 0)).1 (callsIn_of_wp_marks Tryz.func47 rfl trivial ?_ rfl)
 simp only [Tryz.ntmps47, List.size_toArray, List.length_cons, List.length_nil, Nat.reduceAdd, Nat.reduceSub, Array.replicate_succ, Array.replicate_zero, List.push_toArray, List.append_toArray, List.nil_append, List.cons_append]
 refine wpIn_wide.2 (Code.wp_mono (fun e a w => ypj e a w) ?_)
 go_upto_region 1 with fail
 obtain ⟨b1, hb1⟩ : ∃ b1, w.heap.size = b1 := ⟨_, rfl⟩
 obtain ⟨w0, hw0⟩ : ∃ w0, (w.alloc (.cells #[.pointer (some ⟨p, 0, none⟩)] 32)).alloc (.cells #[.slice none 0 0] 33) = w0 := ⟨_, rfl⟩
 rw [hw0] at hV1' hV2 B0 h0 hz0
 rw [hw0]
 rw [hb1] at hV1' hV2 hz0 hL
 try rw [World.size_alloc]
 try rw [hb1]
 have HQ1 : Hid (w.heap.size = b1) := hb1
 clear hw0 hb1
 have HB0 := Lib.hid B0
 have H0 := Lib.hid h0
 have HV1 := Lib.hid hV1'
 have HV2 := Lib.hid hV2
 have c1 := hV1'.val
 clear B0 h0 hV1' hV2
 go_wp2_with (go_at_call 126; (with_reducible refine (yz7 _ _).mono ?_); rintro e w3 ⟨rfl, rfl⟩)
 refine (wpIn_wide (n := 0)).1 ?_
 gi_wp2
 have hb3 : Below w0.heap.size w0 (w0.alloc (.cells #[.pointer (some ⟨p, 0, none⟩)] 32)) := (Below.refl _ _).alloc (Nat.le_refl _) _
 have hV3 := Var.new w0 (.pointer (some ⟨p, 0, none⟩)) 32
 have h3 := H0.out.below hb3
 have v1 := HV1.out.below hb3
 have v2 := HV2.out.below hb3
 have hz3 : (w0.alloc (.cells #[.pointer (some ⟨p, 0, none⟩)] 32)).heap.size = b1 + 3 := by simp [hz0]
 rw [hz0] at hV3
 try rw [hz0]
 obtain ⟨w3, hw3⟩ : ∃ w3, w0.alloc (.cells #[.pointer (some ⟨p, 0, none⟩)] 32) = w3 := ⟨_, rfl⟩
 rw [hw3] at hb3 hV3 h3 v1 v2 hz3
 rw [hw3]
 clear hw3 c1
 have HB3 := Lib.hid hb3
 have H3 := Lib.hid h3
 have HV3 := Lib.hid hV3
 have hSl : ∀ q, S.ownBlock = some q → q < b1 := fun q hq => by have := HS.out q hq; have := HQ1.out; omega
 have HSL := Lib.hid hSl
 obtain ⟨Yc, hYc⟩ : ∃ Yc : List Nat, p :: b1 :: (b1 + 1) :: S.ownBlock.toList = Yc := ⟨_, rfl⟩
 have hYl : ∀ q ∈ Yc, q < w3.heap.size := fun q hq => by
  rw [← hYc] at hq
  simp at hq
  rcases hq with rfl | rfl | rfl | hq
  ·exact h3.lt
  ·omega
  ·omega
  ·exact h3.slt q hq
 have hYm : ∀ z, (z = p ∨ z = b1 ∨ z = b1 + 1 ∨ S.ownBlock = some z) → z ∈ Yc := fun z hz => by
  rw [← hYc]
  simp
  exact hz
 have HYM := Lib.hid hYm
 have HYL := Lib.hid hYl
 have HYC := Lib.hid hYc
 obtain ⟨m, hm⟩ : ∃ m, (v.its.length + 3) / 4 = m := ⟨_, rfl⟩
 have HM := Lib.hid hm
 clear hYc hYl hYm hm
 refine ymu (gf := 178) (lb := #[.pointer (some ⟨b1 + 2, 0, none⟩)]) rfl (enters_of Tryz.func178 (by kernel_rfl) rfl) (enc := encC) (ok := yky v.its) (m := m) (B := [])
  (fun n x => yz5 v.its n x)
  (fun V hV => by rw [← HM.out]; exact yz6 (H3.out.below hV) hst ((hV.cell (p := ⟨b1 + 2, 0, none⟩) HV3.out.lt).trans HV3.out.val) []) (by simp) (fun _ => rfl)
  (fun n V Y => Y = Yc ∧ n ≤ v.ch ∧ VM V p v S ∧ Var V b1 (.pointer (some ⟨p, 0, none⟩)) ∧ Var V (b1 + 1) (.slice none 0 0))
  (fun c V Y => c = .ret ∧ NxS V p (b1 + 1) v S b1 Y)
  Yc HYL.out
  ⟨rfl, Nat.zero_le _, H3.out, v1, v2⟩
  (by
   rintro n V V1 Y G ⟨rfl, k1, k2, k3, k4⟩ tt hn
   refine ⟨rfl, k1, k2.touch tt (fun q hq => hn q (HYM.out q ?_)), k3.touch tt (hn _ (HYM.out _ (.inr (.inl rfl)))), k4.touch tt (hn _ (HYM.out _ (.inr (.inr (.inl rfl)))))⟩
   rcases List.mem_cons.1 hq with rfl | y
   ·exact .inl rfl
   ·exact .inr (.inr (.inr (by simpa using y))))
  (by
   rintro c V V1 Y G ⟨rfl, k1⟩ tt hn
   exact ⟨rfl, ypr p (b1 + 1) v S b1 V V1 Y G k1 tt hn⟩)
  (fun x => { tmps := #[.pointer (some ⟨p, 0, none⟩), .pointer (some ⟨b1, 0, none⟩), .pointer (some ⟨b1 + 1, 0, none⟩), .int .i64 (x.1 : Nat), x.2, undef, .pointer (some ⟨p, 0, none⟩), .func (.func 178) #[] #[.pointer (some ⟨b1 + 2, 0, none⟩)], .int .i64 (x.1 : Nat), x.2, undef, undef, undef, undef, undef, undef, undef, undef, undef, undef, undef, undef, undef, undef, undef, undef, undef, undef, undef, undef, undef, undef, undef, undef, undef, undef, undef, undef, undef, undef], defers := [] })
  ?assign ?body ?done ?stop
 case assign =>
  intro lp x V K hK
  gi_wp2
  exact hK
 case body =>
  rintro lp n ⟨xi, xv⟩ V Y Z hV hn ⟨hx1, hx2, A2, c2, hx3, r2⟩ ⟨rfl, hch', k1, k2, k3⟩ hY hZ
  dsimp only at hx1 hx2 hx3
  subst hx1 hx2 hx3
  have c1 := k2.val
  have c8 := k1.cell (i := 8) rfl
  by_cases hle : n + 1 ≤ v.ch
  ·have t1 : decide (n + 1 ≤ v.ch) = true := decide_eq_true hle
   have K1 := Lib.hid k1
   have K2 := Lib.hid k2
   have K3 := Lib.hid k3
   have HYY := Lib.hid hY
   clear k1 k2 k3 r2 hY hZ
   gi_wp2
   exact ⟨Y, yaae HYY.out, rfl, hle, K1.out, K2.out, K3.out⟩
  ·have t1 : decide (n + 1 ≤ v.ch) = false := decide_eq_false hle
   obtain rfl : n = v.ch := by omega
   have c9 := k1.cell (i := 9) rfl
   have f8 := k1.free 8
   have f9 := k1.free 9
   have K1 := Lib.hid k1
   have K2 := Lib.hid k2
   have K3 := Lib.hid k3
   have HYY := Lib.hid hY
   have HRR := Lib.hid r2
   have HZZ := Lib.hid hZ
   clear k1 k2 k3 r2 hY hZ hle
   gi_wp2
   refine wpIn_mono (Q := fun e a w => e = .normal ∧ a = { tmps := #[.pointer (some ⟨p, 0, none⟩), .pointer (some ⟨b1, 0, none⟩), .pointer (some ⟨b1 + 1, 0, none⟩), .int .i64 ((v.ch : Int) + 1), .slice A2 (piece v.its v.ch).length c2, undef, .pointer (some ⟨p, 0, none⟩), .func (.func 178) #[] #[.pointer (some ⟨b1 + 2, 0, none⟩)], .int .i64 ((v.ch : Int) + 1), .slice A2 (piece v.its v.ch).length c2, .int .i64 ((v.ch : Int) + 1), .pointer (some ⟨p, 0, none⟩), .pointer (some ⟨p, 0, none⟩), .pointer (some ⟨p, 8, none⟩), .int .i64 (v.ch : Int), .bool (decide ((v.ch : Int) + 1 ≤ (v.ch : Int))), .pointer (some ⟨p, 0, none⟩), .pointer (some ⟨p, 0, none⟩), .int .i64 ((v.ch : Int) + 1), .pointer (some ⟨p, 0, none⟩), .pointer (some ⟨p, 8, none⟩), .pointer (some ⟨p, 0, none⟩), .pointer (some ⟨p, 9, none⟩), undef, undef, undef, undef, undef, undef, undef, undef, undef, undef, undef, undef, undef, undef, undef, undef, undef], defers := [] } ∧
    w = ((V.setCell ⟨p, 8, none⟩ (.int .i64 ((v.ch : Int) + 1))).setCell ⟨p, 9, none⟩ (.int .i64 2)).drew) (by gi_region <;> exact ⟨rfl, rfl, rfl⟩) ?_
   rintro e a V1 ⟨rfl, rfl, hw1⟩
   have k1 : VM V1 p (v.sent 2 (v.ch + 1)) S := by
    rw [hw1]
    exact (K1.out.sent hst (v.ch + 1)).below (Below.refl _ _).drew
   have tt : Touch [p] V V1 := by
    rw [hw1]
    exact (((Touch.refl [p] V).set (.inl (by simp)) _).set (.inl (by simp)) _).drew
   have k2 := K2.out.touch tt (by simp; omega)
   have k3 := K3.out.touch tt (by simp; omega)
   have CL : Hid (Calls Tryz.prog 50 #[.pointer (some ⟨p, 0, none⟩), .int .i64 12] V1 fun e w' => e = .returned (.agg (yak (LV.bare 12 v.me v.to_ v.id))) ∧ Below V1.heap.size V1 w') := ykx (v := v.sent 2 (v.ch + 1)) 12 k1
   have HC1 := Lib.hid k1
   have HC2 := Lib.hid k2
   have HC3 := Lib.hid k3
   have HT := Lib.hid tt
   have c1 := k2.val
   clear hw1 k1 k2 k3 tt c8 c9 f8 f9
   gi_wp2
   refine ⟨trivial, rfl, ?_⟩
   refine (CallsIn.inRound lp (callsIn_wide.2 CL.out)).mono ?_
   rintro e w4 ⟨rfl, hb4⟩
   have HB4 := Lib.hid hb4
   have hone := yfz (LV.bare 12 v.me v.to_ v.id)
   have hi1 : (Tryz.prog.info? 49).map (·.size) = some (yak (LV.bare 12 v.me v.to_ v.id)).size := yel
   have ho1 : ya5.size = (yak (LV.bare 12 v.me v.to_ v.id)).size := rfl
   have hx4 := heap_alloc_new w4 (.cells ya5 49)
   have hx5 := ygo (yak (LV.bare 12 v.me v.to_ v.id)) hx4
   have x18 := yaw hx5 (o := 18) rfl
   have x19 := yaw hx5 (o := 19) rfl
   have g18 : ((w4.alloc (.cells ya5 49)).setRow w4.heap.size (yak (LV.bare 12 v.me v.to_ v.id))).frozen? ⟨w4.heap.size, 18, none⟩ = false := ykz hx5 18
   have g19 : ((w4.alloc (.cells ya5 49)).setRow w4.heap.size (yak (LV.bare 12 v.me v.to_ v.id))).frozen? ⟨w4.heap.size, 19, none⟩ = false := ykz hx5 19
   have hx7 : ((((w4.alloc (.cells ya5 49)).setRow w4.heap.size (yak (LV.bare 12 v.me v.to_ v.id))).setCell ⟨w4.heap.size, 19, none⟩ (.int .i64 ((v.ch : Int) + 1))).setCell ⟨w4.heap.size, 18, none⟩ (.slice A2 (piece v.its v.ch).length c2)).heap[w4.heap.size]? = some (.cells (LR.cells ⟨v.chunk (v.ch + 1) (piece v.its v.ch), .slice none 0 0, .slice A2 (piece v.its v.ch).length c2⟩) 49) := yco (yco hx5 19 _) 18 _
   have hi7 : (Tryz.prog.info? 49).map (·.size) = some (LR.cells ⟨v.chunk (v.ch + 1) (piece v.its v.ch), .slice none 0 0, .slice A2 (piece v.its v.ch).length c2⟩).size := yel
   have hb7 : Below w4.heap.size w4 ((((w4.alloc (.cells ya5 49)).setRow w4.heap.size (yak (LV.bare 12 v.me v.to_ v.id))).setCell ⟨w4.heap.size, 19, none⟩ (.int .i64 ((v.ch : Int) + 1))).setCell ⟨w4.heap.size, 18, none⟩ (.slice A2 (piece v.its v.ch).length c2)) := yem (yem (yka w4 _ _ _) (Nat.le_refl _) _ _) (Nat.le_refl _) _ _
   have k7 := (HC3.out.below hb4).below hb7
   have c7 := k7.val
   have f7 := k7.free
   have l7 := k7.lt
   have HB7 := Lib.hid hb7
   clear hb4 CL c1 hb7 k7
   gi_wp2_with (first
    | (with_reducible (show wpListIn _ _ _ _ _ (⟨some 29, Op.load _ _, _, _, _, _⟩ :: _) _ _); go_must (refine yaaa rfl 49 (.tmp 5) rfl w4.heap.size rfl 49 (LR.cells ⟨v.chunk (v.ch + 1) (piece v.its v.ch), .slice none 0 0, .slice A2 (piece v.its v.ch).length c2⟩) (0, 0) _ hx7 Tryz.underlying49 rfl hi7 ?_; clear x18 x19 g18 g19 hx4 hx5; obtain ⟨w7, hw7⟩ : ∃ w7, ((((w4.alloc (.cells ya5 49)).setRow w4.heap.size (yak (LV.bare 12 v.me v.to_ v.id))).setCell ⟨w4.heap.size, 19, none⟩ (.int .i64 ((v.ch : Int) + 1))).setCell ⟨w4.heap.size, 18, none⟩ (.slice A2 (piece v.its v.ch).length c2)) = w7 := ⟨_, rfl⟩; rw [hw7] at hx7 c7 f7 l7 HB7; rw [hw7]; clear hw7))
    | (with_reducible (show wpListIn _ _ _ _ _ (⟨none, Op.store _ (Operand.tmp 5) _, _, _, _, _⟩ :: _) _ _); go_must (refine yaab rfl 49 (.tmp 5) (.tmp 24) rfl w4.heap.size (yak (LV.bare 12 v.me v.to_ v.id)) rfl rfl 49 ya5 hx4 hi1 ho1 hone ?_)))
   exact yaaf HM.out hn HC1.out HT.out HB4.out HB7.out HRR.out HZZ.out HYY.out HYM.out hz3.symm hV hL HSL.out ⟨c7, f7⟩
 case done =>
  rintro D V Y hD hDn hL ⟨rfl, hn, k1, k2, k3⟩ hK
  have c1 := k2.val
  have c7 := k1.cell (i := 7) rfl
  have c9 := k1.cell (i := 9) rfl
  have f7 := k1.free 7
  have f9 := k1.free 9
  have HK := Lib.hid hK
  have HLL := Lib.hid hL
  have K1 := Lib.hid k1
  have K2 := Lib.hid k2
  have K3 := Lib.hid k3
  have hD3 : b1 + 3 ≤ D := by omega
  clear k1 k2 k3 hL hK hD hDn
  go_upto_region 9 with fail
  go_region
  obtain ⟨V9, hV9⟩ : ∃ V9, ((V.setCell ⟨p, 7, none⟩ (.slice none 0 0)).setCell ⟨p, 9, none⟩ (.int .i64 3)).drew = V9 := ⟨_, rfl⟩
  rw [hV9]
  have h9 : VM V9 p (v.at_ 3) (.slice none 0 0) := by
   rw [← hV9]
   exact K1.out.promised.below (Below.refl _ _).drew
  have tt : Touch [p] V V9 := by
   rw [← hV9]
   exact (((Touch.refl [p] V).set (.inl (by simp)) _).set (.inl (by simp)) _).drew
  have k2 := K2.out.touch tt (by simp; omega)
  have k3 := K3.out.touch tt (by simp; omega)
  have CO : Hid (Calls Tryz.prog 35 #[.pointer (some ⟨p, 0, none⟩), .int .i64 14] V9 fun e w' => e = .returned (.agg (yak v.commit)) ∧ Below V9.heap.size V9 w') := ypq (v := v.at_ 3) 14 h9
  have HT := Lib.hid tt
  have HC3 := Lib.hid k3
  have H9 := Lib.hid h9
  have c1 := k2.val
  clear hV9 k2 k3 h9 tt c7 c9 f7 f9
  go_wp2_with (go_at_call 35; (with_reducible refine (CO.out).mono ?_); rintro e w10 ⟨rfl, hb10⟩; have HB10 := Lib.hid hb10; have k10 := HC3.out.below hb10; have c10 := k10.val; have f10 := k10.free; have l10 := k10.lt; have HV10 := Lib.hid k10; clear hb10 k10)
  have hDV : D < V.heap.size := yca HK.out
  have hd9 : V9.heap[D]? = some (.deferred (some [])) := (HT.out.block D hDV (by simp; omega)).trans HK.out
  have hd10 : w10.heap[D]? = some (.deferred (some [])) := (HB10.out.block D (yca hd9)).trans hd9
  have hdl := yca hd10
  have HLZ : Left [] (p :: b1 :: (b1 + 1) :: S.ownBlock.toList) w3 V Y := by
   have := HLL.out
   rw [← HYC.out] at this ⊢
   exact this
  have nz := yaah (o := .deferred none) HB0.out HB3.out HQ1.out HLZ hL (by have := K3.out.lt; omega) (by have := HM.out; omega) H9.out HT.out HB10.out HV10.out hD3 hDV
  refine ⟨by simp, .inl ⟨_, _, rfl, run_takeDeferred ?_, ?_⟩⟩
  ·exact ((((Touch.refl [b1 + 1] w10).set (.inl (by simp)) _).trans (Touch.ofBelow (F := [b1 + 1]) ((Below.refl _ _).alloc (Nat.le_refl _) _)) (fun x hx => .inl hx)).block D hdl (by simp; omega)).trans hd10
  ·exact ⟨.slice (some ⟨w10.heap.size, 0, none⟩) 1 1, by simp [results, Tryz.results47, go_sem, nz.1], nz.2⟩
 case stop =>
  rintro D c V Y hD hDn hL ⟨rfl, k1⟩ hK
  rw [← HYC.out] at hL
  obtain ⟨q, cc, hq⟩ := yaag (o := .deferred none) HB0.out HB3.out HQ1.out hL k1 (by omega) hDn
  have HK := Lib.hid hK
  clear hK hL k1 hD hDn
  gi_wp2
  refine ⟨by simp, .inl ⟨_, _, rfl, run_takeDeferred HK.out, ?_⟩⟩
  exact ⟨.slice (some ⟨q, 0, none⟩) 1 1, by simp [results, Tryz.results47, go_sem, cc], hq⟩
end Go.Proofs.YtnjodhglbapnlaaGreat
namespace Go.Proofs.YtnjodhglbapnlaaGreat
open Go.RowKit
attribute [local go_sem] Oper.semAt_some
def yk1 (w : World) (p g : Nat) (v : GV) (S : Value) (s1 : HO) (F : List Nat) (e : Ending) (w' : World) : Prop :=
 e = .returned (.tuple #[]) ∧ ∃ F1, VD w' g s1 F1 ∧ VM w' p (v.at_ 5) (.slice none 0 0) ∧ Touch (F ++ vF p S) w w' ∧ ∀ q ∈ F1, q ∈ F ∨ w.heap.size ≤ q
theorem ypu {w : World} {B : Nat} {l : LV} (h1 : l.ti = []) (h2 : l.li = []) (hb : B ≤ w.heap.size) : Mail (w.alloc (.cells (yak l) 49)) B (.slice (some ⟨w.heap.size, 0, none⟩) 1 1) [l] [w.heap.size] :=
 yk0 (l := l) (a := .slice none 0 0) (b := .slice none 0 0) (heap_alloc_new w _) hb (by rw [h1]; exact yg5 _) (by rw [h2]; exact yg5 _) (fun z hz => by simp [LR.blocks, Value.ownBlock] at hz)
theorem yfd (w : World) (B : Nat) : Mail w B (.slice none 0 0) [] [] := ⟨[], rfl, World.ownsRow_nil _ _ _ _, by simp, fun q hq => (by cases hq), by simp⟩
section
variable {w : World} {g p : Nat} {s : HO} {F : List Nat} {v : GV} {S : Value}
theorem ypv (hv : VD w g s F) (h : VM w p v S) (hF : ∀ q ∈ vF p S, q ∉ F) (hh : v.h = g) : Calls Tryz.prog 48 #[.pointer (some ⟨p, 0, none⟩)] w (yk1 w p g v S s.thawed F) := by
 have c0 := h.cell (i := 0) (u := .pointer (some ⟨g, 0, none⟩)) (by rw [← hh]; rfl)
 have CT := Lib.hid (ybj.thaw hv)
 have HH := Lib.hid h
 have HF := Lib.hid hF
 clear h hF hv
 go_enter Tryz.func48, Tryz.ntmps48
 go_wp2_with (go_at_call 127; (with_reducible refine (CT.out).mono ?_); rintro e w1 ⟨F1, rfl, hv1, ht1, hn1⟩; have h1 := HH.out.touch ht1 HF.out; have c7 := h1.cell (i := 7) rfl; have c9 := h1.cell (i := 9) rfl; have f7 := h1.free 7; have f9 := h1.free 9; have H1 := Lib.hid h1; have HV1 := Lib.hid hv1; have HT1 := Lib.hid ht1; have HN1 := Lib.hid hn1; clear h1 hv1 ht1 hn1)
 go_end0
 have tt : Touch [p] w1 ((w1.setCell ⟨p, 7, none⟩ (.slice none 0 0)).setCell ⟨p, 9, none⟩ (.int .i64 5)) := ((Touch.refl _ _).set (.inl (by simp)) _).set (.inl (by simp)) _
 have hpF1 : p ∉ F1 := fun z => by
  rcases HN1.out p z with y | y
  ·exact HF.out p (by simp) y
  ·have := HH.out.lt; omega
 refine ⟨rfl, F1, ybj.touch HV1.out tt (fun q hq z => hpF1 (by rw [← List.mem_singleton.1 z]; exact hq)), H1.out.over5, ?_, HN1.out⟩
 exact (HT1.out.mono (fun x hx => List.mem_append_left _ hx)).trans tt (fun x hx => .inl (by have := List.mem_singleton.1 hx; simp [this]))
theorem yaai (hv : VD w g s F) (h : VM w p v S) (hF : ∀ q ∈ vF p S, q ∉ F) (hh : v.h = g) :
  Calls Tryz.prog 15 #[.pointer (some ⟨p, 0, none⟩)] w (yc5 VD VV w g (if v.st = 1 ∨ v.st = 2 then s.thawed else s) F p v.stop.1 (vF p S) v.stop.2 (decide (v.st = 1 ∨ v.st = 2))) := by
 have c9 := h.cell (i := 9) (u := .int .i64 (v.st : Nat)) rfl
 have hpF : p ∉ F := hF p (by simp)
 by_cases hst : v.st = 1 ∨ v.st = 2
 ·have e1 : v.stop = (v.at_ 5, [v.drop]) := if_pos hst
  rw [if_pos hst, decide_eq_true hst, e1]
  have CE := Lib.hid (ypv hv h hF hh)
  have HH := Lib.hid h
  have CL : Hid (∀ w1, VM w1 p (v.at_ 5) (.slice none 0 0) → Calls Tryz.prog 50 #[.pointer (some ⟨p, 0, none⟩), .int .i64 16] w1 fun e w' => e = .returned (.agg (yak v.drop)) ∧ Below w1.heap.size w1 w') := fun w1 h1 => ykx (v := v.at_ 5) 16 h1
  have HFF := Lib.hid hF
  have hone := yfz v.drop
  have fin : Hid (∀ {w1 w2 : World} {F1 : List Nat}, VD w1 g s.thawed F1 → VM w1 p (v.at_ 5) (.slice none 0 0) → Touch (F ++ vF p S) w w1 → (∀ q ∈ F1, q ∈ F ∨ w.heap.size ≤ q) → Below w1.heap.size w1 w2 → yc5 VD VV w g s.thawed F p (v.at_ 5) (vF p S) [v.drop] true (.returned (.tuple #[.slice (some ⟨w2.heap.size, 0, none⟩) 1 1, .bool true])) (w2.alloc (.cells (yak v.drop) 49))) := by
   intro w1 w2 F1 q1 q2 q3 q4 q5
   have b2 : Below w1.heap.size w1 (w2.alloc (.cells (yak v.drop) 49)) := acc q5 ((Below.refl _ _).alloc (Nat.le_refl _) _)
   have s1 := q3.size
   have s2 := q5.size
   refine ⟨F1, vF p (.slice none 0 0), _, _, rfl, ypu rfl rfl (by omega), ybj.touch q1 (Touch.ofBelow (F := []) b2) (by simp), ⟨_, q2.below b2, rfl⟩, q3.trans (Touch.ofBelow (F := F ++ vF p S) b2) (fun x hx => .inl hx), q4, fun q hq => ?_, fun q hq => ?_⟩
   ·have e : q = p := by simpa [Value.ownBlock] using hq
    subst e
    refine ⟨.inl (by simp), fun z => ?_⟩
    rcases q4 q z with y | y
    ·exact hF q (by simp) y
    ·have := h.lt; omega
   ·have e := List.mem_singleton.1 hq
    refine ⟨fun z => ?_, fun z => ?_⟩
    ·have := (ybj.has_ q1).2 q z
     omega
    ·have := q2.all_lt q z
     omega
  clear hv h hF e1
  rcases hst with hst | hst
  ·rw [hst] at c9
   clear hst
   go_enter Tryz.func15, Tryz.ntmps15
   go_wp2_with (first
    | (go_at_call 48; (with_reducible refine (CE.out).mono ?_); rintro e w1 ⟨rfl, F1, q1, q2, q3, q4⟩; have C2 := Lib.hid (CL.out w1 q2); have Q1 := Lib.hid q1; have Q2 := Lib.hid q2; have Q3 := Lib.hid q3; have Q4 := Lib.hid q4; clear q1 q2 q3 q4)
    | (go_at_call 50; (with_reducible refine (C2.out).mono ?_); rintro e w2 ⟨rfl, hb2⟩; have HB2 := Lib.hid hb2; clear hb2))
   refine bodyPost_ret (v := .tuple #[.slice (some ⟨w2.heap.size, 0, none⟩) 1 1, .bool true]) (by simp [results, Tryz.results15, go_sem]) rfl ?_
   exact fin.out Q1.out Q2.out Q3.out Q4.out HB2.out
  ·rw [hst] at c9
   clear hst
   go_enter Tryz.func15, Tryz.ntmps15
   go_wp2_with (first
    | (go_at_call 48; (with_reducible refine (CE.out).mono ?_); rintro e w1 ⟨rfl, F1, q1, q2, q3, q4⟩; have C2 := Lib.hid (CL.out w1 q2); have Q1 := Lib.hid q1; have Q2 := Lib.hid q2; have Q3 := Lib.hid q3; have Q4 := Lib.hid q4; clear q1 q2 q3 q4)
    | (go_at_call 50; (with_reducible refine (C2.out).mono ?_); rintro e w2 ⟨rfl, hb2⟩; have HB2 := Lib.hid hb2; clear hb2))
   refine bodyPost_ret (v := .tuple #[.slice (some ⟨w2.heap.size, 0, none⟩) 1 1, .bool true]) (by simp [results, Tryz.results15, go_sem]) rfl ?_
   exact fin.out Q1.out Q2.out Q3.out Q4.out HB2.out
 ·have e1 : v.stop = (v, []) := if_neg hst
  rw [if_neg hst, decide_eq_false hst, e1]
  have t1 : ((v.st : Int) != 1) = true := by rw [bne_iff_ne]; omega
  have t2 : ((v.st : Int) != 2) = true := by rw [bne_iff_ne]; omega
  have HH := Lib.hid h
  have HV := Lib.hid hv
  have HFF := Lib.hid hF
  clear hst h hv hF e1
  go_enter Tryz.func15, Tryz.ntmps15
  go_wp2_with fail
  refine bodyPost_ret (v := .tuple #[.slice none 0 0, .bool false]) (by simp [results, Tryz.results15, go_sem]) rfl ?_
  exact ⟨F, vF p S, _, [], rfl, yfd _ _, HV.out, ⟨S, HH.out, rfl⟩, Touch.refl _ _, fun q hq => .inl hq, fun q hq => ⟨.inl hq, HFF.out q hq⟩, by simp⟩
end
end Go.Proofs.YtnjodhglbapnlaaGreat
