import Derived.Test.YtnjodhglbapnlaaGreatGg08
import Derived.Test.YtnjodhglbapnlaaGreatGg22
import Derived.Test.YtnjodhglbapnlaaGreatGg26
import Derived.Test.YtnjodhglbapnlaaGreatRows
import Derived.WalkKit
import Derived.OwnWalkIn
import Derived.TacticsInMore
import Derived.Deep.MidRow
set_option maxRecDepth 100000
set_option maxHeartbeats 16000000
namespace Go.Proofs.YtnjodhglbapnlaaGreat
open Go.RowKit
attribute [local go_sem] Oper.semAt_some
theorem yit {F : Fence} {d : Nat} {P : Program} {w : World} {ops : Array Oper} {o : Oper} {a : Act} {K : Act → World → Prop} {Q : Exit → Act → World → Prop} {E : Prop} (hg : o.guard = none) (s x : Operand) (t : TypeId)
  (ho : o.op = .call { callee := .builtin .append, args := #[s, x], argTypes := #[t, t] })
  (base : Nat) (e : TypeId) (i : TypeInfo) (z : Value) (size bytes : Nat) (ht : P.underlying t = some (.slice e)) (hi : P.info? e = some i) (hz : i.zero = some z)
  (hsize : i.size = size) (hby : i.bytes = bytes) (hzs : z.cells.size = size) (hsz : 0 < size)
  (v : Value) (n : Nat) (xs : List Value) (hs : a.eval s = v) (hown : w.ownsRow base e size v n xs)
  (y : Value) (m : Nat) (news : List Value) (hx : a.eval x = y) (hsrc : From w size y m news) (h1 : ∀ u ∈ news, u.oneCell' = true)
  (h63 : n + m ≤ maxLen) (hbytes : (n + m) * bytes ≤ 140737488355328) (hbase : base ≤ w.heap.size)
  (h : ∀ A c w', w'.ownsRow base e size (.slice A (n + m) c) (n + m) (xs ++ news) → w.grownBy w' v.ownBlock → yax w v (.slice A (n + m) c) → K (a.put o.dst (.slice A (n + m) c)) w') :
  if Region.wanted o (yielded ops a.tmps) = true then Oper.wpIn F d P o a w K Q else E := by
 rw [if_pos (by simp [Region.wanted, hg])]
 obtain ⟨v', w', hr, h2, h3, h4⟩ := yhx (P := P) w base t o.type e i z size bytes ht hi hz hsize hby hzs hsz v n xs hown y m news hsrc h1 h63 hbytes hbase
 obtain ⟨A, c, rfl⟩ := yav h2
 refine ⟨by simp [Oper.about, ho, resolve, Target.leads, Sem.run_pure], ?_⟩
 rw [Oper.semAt_plain F _ _ (by rw [ho]; intro c hc; cases hc)]
 simp only [execOp, ho, resolve, invoke, builtin, Sem.run_bind, Sem.run_pure, Result.andThen_ok, List.map_toArray, List.map_cons, List.map_nil, hs, hx, hr]
 exact h _ _ _ h2 h3 h4
def chV (A : Option Addr) (n j : Nat) : Value := match A with
 | some ⟨b, o, s⟩ => .slice (some ⟨b, o + j * 4 * 2, s⟩) (min 4 (n - j * 4) : Nat) (min 4 (n - j * 4) : Nat)
 | none => .slice none 0 0
def chVs (A : Option Addr) (n : Nat) : List Value := (List.range ((n + 3) / 4)).map (chV A n)
theorem yzw {W : World} {A : Option Addr} {c n : Nat} (hn : n ≤ 4611686018427387904) (hc : n ≤ c) (hA : 1 ≤ n → ∃ b o, A = some ⟨b, o, none⟩) {b1 b2 : Nat} (hc1 : W.cell? ⟨b1, 0, none⟩ = some (.slice A n c)) (hc2 : W.cell? ⟨b2, 0, none⟩ = some (.int .i64 4))
  (B : List Nat) (hB1 : b1 ∈ B) (hB2 : b2 ∈ B) (hBW : ∀ q ∈ B, q < W.heap.size) :
  WayY 218 #[.pointer (some ⟨b1, 0, none⟩), .pointer (some ⟨b2, 0, none⟩)] (fun v => #[v]) (chVs A n) B W := by
 intro l J Q Y0 hY0 h0 hJ hQ hR
 have H0 := Lib.hid h0
 have HJ := Lib.hid hJ
 have HR := Lib.hid hR
 have HY0 := Lib.hid hY0
 have HBW := Lib.hid hBW
 have HA := Lib.hid hA
 clear h0 hJ hR hQ hY0 hBW hA
 have hlen : (chVs A n).length = (n + 3) / 4 := by simp [chVs]
 have HLN := Lib.hid hlen
 clear hlen
 refine (callsIn_wide (n := 0)).1 (callsIn_of_wp Tryz.func218 rfl trivial ?_ rfl)
 simp only [Tryz.ntmps218, List.size_toArray, List.length_cons, List.length_nil, Nat.reduceAdd, Nat.reduceSub, Array.replicate_succ, Array.replicate_zero, List.push_toArray, List.append_toArray, List.nil_append, List.cons_append]
 gi_wp2
 gi_loopw [4] (fun p wr => ∃ (j : Nat) (Y : List Nat), p = .int .i64 ((j * 4 : Nat) : Int) ∧ j ≤ (n + 3) / 4 ∧ Hid (J j wr Y) ∧ Hid (Left B Y0 W wr Y) ∧ wr.cell? ⟨b1, 0, none⟩ = some (.slice A n c) ∧ wr.cell? ⟨b2, 0, none⟩ = some (.int .i64 4))
  (fun p _ => n + 4 - (intOf p).toNat)
 case atStart => exact ⟨0, Y0, rfl, Nat.zero_le _, H0.out, Left.refl HY0.out, hc1, hc2⟩
 case round =>
  obtain ⟨j, Y, rfl, hj, HJj, HL, d1, d2⟩ := hrel
  by_cases hlt : j * 4 < n
  ·obtain ⟨b, o, rfl⟩ := HA.out (by omega)
   have t1 : decide (((j * 4 : Nat) : Int) < (n : Int)) = true := by simp; omega
   have t1' : decide (j * 4 < n) = true := by simp; omega
   obtain ⟨m, hm⟩ : ∃ m, min 4 (n - j * 4) = m := ⟨_, rfl⟩
   have hx : (chVs (some ⟨b, o, none⟩) n)[j]? = some (.slice (some ⟨b, o + j * 4 * 2, none⟩) m m) := by
    rw [chVs, List.getElem?_map, List.getElem?_range (by omega)]
    simp only [Option.map_some, chV, hm]
   have hm' : (if ((n - j * 4 : Nat) : Int) < 4 then ((n - j * 4 : Nat) : Int) else 4) = ((m : Nat) : Int) := by
    split <;> omega
   have hm2 : min (4 : Int) ((n - j * 4 : Nat) : Int) = ((m : Nat) : Int) := by omega
   have hYl : ∀ q ∈ Y, q < wr.drew.heap.size := fun q hq => (HL.out.2 q hq).1
   obtain ⟨fn, tmps, assign, body, hy, hr⟩ := HR.out j _ wr.drew Y hx (HJ.out _ _ _ Y [] HJj.out (Touch.refl _ _).drew (by simp)) hYl
   have HRR := Lib.hid hr
   clear hx hr hYl
   have e1 : wr.drew.cell? ⟨b1, 0, none⟩ = some (.slice (some ⟨b, o, none⟩) n c) := d1
   gi_wp2
   gi_region
   have hm4 : m ≤ 4 ∧ j * 4 + m ≤ n := by omega
   have hm0 : ¬ m = 0 := by omega
   clear hm hm' hm2
   have HE1 := Lib.hid e1
   have HE2 : Hid (wr.drew.cell? ⟨b2, 0, none⟩ = some (.int .i64 4)) := d2
   gi_wp2
   refine ⟨rfl, ?_⟩
   refine (RoundIn.deep HRR.out).mono ?_
   rintro e w' ⟨Y', hL', (⟨rfl, hj'⟩ | ⟨rfl, hq⟩)⟩
   ·have d1 : w'.cell? ⟨b1, 0, none⟩ = some (.slice (some ⟨b, o, none⟩) n c) := hL'.cellB HE1.out hB1
    have d2 : w'.cell? ⟨b2, 0, none⟩ = some (.int .i64 4) := hL'.cellB HE2.out hB2
    have HL2 : Hid (Left B Y0 W w' Y') := HL.out.trans (Left.after (Below.refl _ wr).drew hL')
    have HJ2 := Lib.hid hj'
    clear hL' hj'
    gi_wp2
    go_roundw
    case rel => exact ⟨j + 1, Y', by congr 1; omega, by omega, HJ2, HL2, d1, d2⟩
    case measure => simp [intOf]; omega
   ·have HL2 : Hid (Left B Y0 W w' Y') := HL.out.trans (Left.after (Below.refl _ wr).drew hL')
    have HQ2 := Lib.hid hq
    clear hL' hq
    gi_wp2
    refine bodyPost_ret (results_none rfl _ _ _) rfl ?_
    exact ⟨rfl, Y', HL2.out, .inr HQ2.out⟩
  ·have t1 : decide (((j * 4 : Nat) : Int) < (n : Int)) = false := by simp; omega
   have t1' : decide (j * 4 < n) = false := by simp; omega
   obtain rfl : j = (n + 3) / 4 := by omega
   have HE : Hid (J (chVs A n).length wr Y) := by rw [HLN.out]; exact HJj.out
   gi_wp2
   go_end0
   exact ⟨rfl, Y, HL.out, .inl HE.out⟩
theorem yzx (A : Option Addr) (n c : Nat) (W : World) : Calls Tryz.prog 198 #[.slice A n c, .int .i64 4] W fun e w' =>
  e = .returned (.func (.func 218) #[] #[.pointer (some ⟨W.heap.size, 0, none⟩), .pointer (some ⟨W.heap.size + 1, 0, none⟩)]) ∧
  w' = (W.alloc (.cells #[.slice A n c] 22)).alloc (.cells #[.int .i64 4] 3) := by
 go_enter Tryz.func198, Tryz.ntmps198
 go_wp2_with fail
 go_ret
 exact ⟨rfl, rfl⟩
def piece (ms : List Item) (j : Nat) : List Item := (ms.drop (j * 4)).take 4
theorem yzy (ms : List Item) (j : Nat) : (piece ms j).length = min 4 (ms.length - j * 4) := by simp [piece]
def ydm (V : World) (n0 : Nat) (ms : List Item) (vs : List Value) : Prop :=
 ∀ i v, vs[i]? = some v → ∃ A c, v = .slice A (piece ms i).length c ∧ V.ownsRow n0 96 2 v (piece ms i).length (yaa (piece ms i))
def ybn (vs : List Value) : List Nat := vs.flatMap fun v => v.ownBlock.toList
theorem yg4 {vs : List Value} {q : Nat} : q ∈ ybn vs ↔ ∃ v ∈ vs, v.ownBlock = some q := by
 simp [ybn]
theorem ydm.touch {V V1 : World} {n0 : Nat} {ms : List Item} {vs : List Value} {G : List Nat} (h : ydm V n0 ms vs) (t : Touch G V V1) (hn : ∀ q ∈ ybn vs, q ∉ G) : ydm V1 n0 ms vs := by
 intro i v hv
 obtain ⟨A, c, e, r⟩ := h i v hv
 exact ⟨A, c, e, t.row r (fun q hq => hn q (yg4.2 ⟨v, List.mem_of_getElem? hv, hq⟩))⟩
theorem ydm.lt {V : World} {n0 : Nat} {ms : List Item} {vs : List Value} (h : ydm V n0 ms vs) : ∀ q ∈ ybn vs, n0 ≤ q ∧ q < V.heap.size := by
 intro q hq
 obtain ⟨v, hv, hb⟩ := yg4.1 hq
 obtain ⟨i, hi, hv'⟩ := List.getElem_of_mem hv
 obtain ⟨A, c, e, r⟩ := h i v (by rw [List.getElem?_eq_getElem hi, hv'])
 exact r.lt q hb
def yzz (W : World) (ms : List Item) (e : Ending) (w' : World) : Prop :=
 ∃ A c vs, e = .returned (.slice A ((ms.length + 3) / 4 : Nat) c) ∧ vs.length = (ms.length + 3) / 4 ∧ w'.ownsRow W.heap.size 22 1 (.slice A ((ms.length + 3) / 4 : Nat) c) ((ms.length + 3) / 4) vs ∧
  ydm w' W.heap.size ms vs ∧ ((Value.slice A ((ms.length + 3) / 4 : Nat) c).ownBlock.toList ++ ybn vs).Nodup ∧ Below W.heap.size W w'
theorem yiu {W W1 : World} {G : List Nat} {p : Addr} {v : Value} (h : W.cell? p = some v) (t : Touch G W W1) (hn : p.block ∉ G) : W1.cell? p = some v := (t.cell (World.block_lt_of_cell? W _ h) hn).trans h
theorem yz0 : ∃ i, Tryz.prog.info? 22 = some i ∧ i.zero = some (.slice none 0 0) ∧ i.size = 1 ∧ i.bytes = 24 := by
 have h : (Tryz.prog.info? 22).map (fun i => (i.zero, i.size, i.bytes)) = some (some (.slice none 0 0), 1, 24) := by kernel_rfl
 obtain ⟨i, hi, hx⟩ := Option.map_eq_some_iff.1 h
 simp only [Prod.mk.injEq] at hx
 exact ⟨i, hi, hx⟩
def ChI (s n0 b off : Nat) (bs : List Nat) (ms : List Item) (m : Nat) (V : World) (Y : List Nat) : Prop :=
 ∃ A1 c1 vs, Y = s :: (bs ++ ((Value.slice A1 m c1).ownBlock.toList ++ ybn vs)) ∧ Var V s (.slice A1 m c1) ∧ vs.length = m ∧ V.ownsRow n0 22 1 (.slice A1 m c1) m vs ∧ ydm V n0 ms vs ∧ ((Value.slice A1 m c1).ownBlock.toList ++ ybn vs).Nodup ∧
  ∀ i (h : i < ms.length), V.cell? ⟨b, off + i * 2, none⟩ = some (.string (ms[i]).1) ∧ V.cell? ⟨b, off + i * 2 + 1, none⟩ = some (.string (ms[i]).2)
theorem yz1 {V : World} {b off : Nat} {ms : List Item} (h : ∀ i (h : i < ms.length), V.cell? ⟨b, off + i * 2, none⟩ = some (.string (ms[i]).1) ∧ V.cell? ⟨b, off + i * 2 + 1, none⟩ = some (.string (ms[i]).2)) (j : Nat) (u : Value) (hj : (yaa ms)[j]? = some u) : V.cell? ⟨b, off + j, none⟩ = some u := by
 have hlt := (List.getElem?_eq_some_iff.1 hj).1
 rw [yb8] at hlt
 have h2 : j / 2 < ms.length := by omega
 rcases (show j = j / 2 * 2 ∨ j = j / 2 * 2 + 1 by omega) with e | e
 ·rw [e, ycc ms _ h2] at hj
  rw [e, (h _ h2).1]
  exact hj
 ·rw [e, yci ms _ h2] at hj
  rw [e, ← Nat.add_assoc, (h _ h2).2]
  exact hj
theorem yz2 {V : World} {b off m : Nat} {ms : List Item} (h : ∀ i (h : i < ms.length), V.cell? ⟨b, off + i * 2, none⟩ = some (.string (ms[i]).1) ∧ V.cell? ⟨b, off + i * 2 + 1, none⟩ = some (.string (ms[i]).2)) (j : Nat) (u : Value) (hj : (yaa (piece ms m))[j]? = some u) : V.drew.cell? ((⟨b, off + m * 4 * 2, none⟩ : Addr).add j) = some u := by
 have e : yaa (piece ms m) = ((yaa ms).drop (m * 4 * 2)).take (4 * 2) := by rw [piece, ← yhj, ← yhk]
 rw [e] at hj
 have hlt := (List.getElem?_eq_some_iff.1 hj).1
 rw [List.length_take] at hlt
 rw [List.getElem?_take_of_lt (by omega), List.getElem?_drop] at hj
 have z := yz1 h _ u hj
 rw [← Nat.add_assoc] at z
 have ea : (⟨b, off + m * 4 * 2, none⟩ : Addr).add j = ⟨b, off + m * 4 * 2 + j, none⟩ := by simp [Addr.add]
 rw [ea]
 exact z
theorem yiv {V w1 : World} {base e size n : Nat} {v : Value} {xs : List Value} (h : V.ownsRow base e size v n xs) (b : Below V.heap.size V w1) : w1.ownsRow base e size v n xs := (Touch.ofBelow (F := []) b).row h (by simp)
theorem yz3 {V w1 w3 : World} {s n0 m k : Nat} {A1 A2 A3 : Option Addr} {c1 d2 c3 : Nat} {vs : List Value} {bs : List Nat} {ms : List Item} {o : Obj}
  (hn : s + 2 < n0) (hb : ∀ q ∈ bs, q < s) (h1 : Var V s (.slice A1 m c1)) (hl : vs.length = m) (h3 : V.ownsRow n0 22 1 (.slice A1 m c1) m vs) (h4 : ydm V n0 ms vs) (h5 : ((Value.slice A1 m c1).ownBlock.toList ++ ybn vs).Nodup) (hsz : n0 ≤ V.heap.size)
  (hp : (piece ms m).length = k) (b1 : Below V.heap.size V w1) (r1 : w1.ownsRow V.heap.size 96 2 (.slice A2 k d2) k (yaa (piece ms m)))
  (r3 : w3.ownsRow n0 22 1 (.slice A3 (m + 1) c3) (m + 1) (vs ++ [.slice A2 k d2])) (g3 : (w1.alloc o).grownBy w3 (Value.slice A1 m c1).ownBlock) (s3 : yax (w1.alloc o) (.slice A1 m c1) (.slice A3 (m + 1) c3)) :
  Left ([s + 1, s + 1 + 1] ++ bs) (s :: (bs ++ ((Value.slice A1 m c1).ownBlock.toList ++ ybn vs))) V (w3.setCell ⟨s, 0, none⟩ (.slice A3 (m + 1) c3)) (s :: (bs ++ ((Value.slice A3 (m + 1) c3).ownBlock.toList ++ ybn (vs ++ [.slice A2 k d2])))) ∧
  Var (w3.setCell ⟨s, 0, none⟩ (.slice A3 (m + 1) c3)) s (.slice A3 (m + 1) c3) ∧ (w3.setCell ⟨s, 0, none⟩ (.slice A3 (m + 1) c3)).ownsRow n0 22 1 (.slice A3 (m + 1) c3) (m + 1) (vs ++ [.slice A2 k d2]) ∧
  ydm (w3.setCell ⟨s, 0, none⟩ (.slice A3 (m + 1) c3)) n0 ms (vs ++ [.slice A2 k d2]) ∧ ((Value.slice A3 (m + 1) c3).ownBlock.toList ++ ybn (vs ++ [.slice A2 k d2])).Nodup ∧ ∀ q ∈ bs, q ∉ s :: (Value.slice A1 m c1).ownBlock.toList := by
 obtain ⟨v1, hv1⟩ : ∃ v, v = Value.slice A1 m c1 := ⟨_, rfl⟩
 obtain ⟨v2, hv2⟩ : ∃ v, v = Value.slice A2 k d2 := ⟨_, rfl⟩
 obtain ⟨v3, hv3⟩ : ∃ v, v = Value.slice A3 (m + 1) c3 := ⟨_, rfl⟩
 rw [← hv1] at h1 h3 h5 g3 s3
 rw [← hv2] at r1 r3
 rw [← hv3] at r3 s3
 rw [← hv1, ← hv2, ← hv3]
 have l1 := h1.lt
 have z1 := b1.size
 have own1 : ∀ q, v1.ownBlock = some q → n0 ≤ q ∧ q < V.heap.size := fun q hq => h3.lt q hq
 have own2 : ∀ q, v2.ownBlock = some q → V.heap.size ≤ q ∧ q < w1.heap.size := fun q hq => r1.lt q hq
 have own3 : ∀ q, v3.ownBlock = some q → n0 ≤ q ∧ q < w3.heap.size := fun q hq => r3.lt q hq
 have old := h4.lt
 have ta : Touch v1.ownBlock.toList V (w1.alloc o) := Touch.ofBelow (b1.alloc b1.size o)
 have tw : Touch v1.ownBlock.toList (w1.alloc o) w3 := (Touch.refl _ _).grown g3 (fun q hq => .inl (by simp [hq]))
 have t3 : Touch v1.ownBlock.toList V w3 := ta.trans tw (fun x hx => .inl hx)
 have zw := tw.size
 have zal : (w1.alloc o).heap.size = w1.heap.size + 1 := by simp
 have t4 : Touch (s :: v1.ownBlock.toList) V (w3.setCell ⟨s, 0, none⟩ v3) := (t3.mono (fun x hx => by simp [hx])).set (.inl (by simp)) _
 have ts : Touch [s] w3 (w3.setCell ⟨s, 0, none⟩ v3) := (Touch.refl _ _).set (.inl (by simp)) _
 have e4 : (w3.setCell ⟨s, 0, none⟩ v3).heap.size = w3.heap.size := by simp [World.setCell]
 have new3 : ∀ q, v3.ownBlock = some q → v1.ownBlock = some q ∨ w1.heap.size < q := fun q hq => by
  rcases s3 q hq with u | u
  ·exact .inl u
  ·exact .inr (by omega)
 have eb : ybn (vs ++ [v2]) = ybn vs ++ v2.ownBlock.toList := by simp [ybn]
 refine ⟨⟨⟨_, t4, fun q hq => ⟨?_, fun hB => ?_⟩⟩, fun q hq => ?_⟩, (h1.touch t3 (fun y => by have := own1 s (by simpa using y); omega)).set _, ts.row r3 (fun q hq y => by have := own3 q hq; simp at y; omega), ?_, ?_, fun q hq y => ?_⟩
 ·rcases List.mem_cons.1 hq with y | y
  ·rw [y]; simp
  ·exact List.mem_cons_of_mem _ (List.mem_append_right _ (List.mem_append_left _ y))
 ·rcases List.mem_cons.1 hq with y | y
  ·rcases List.mem_append.1 hB with u | u
   ·simp at u; omega
   ·have := hb q u; omega
  ·have := own1 q (by simpa using y)
   rcases List.mem_append.1 hB with u | u
   ·simp at u; omega
   ·have := hb q u; omega
 ·rw [e4]
  have z3 := t3.size
  rcases List.mem_cons.1 hq with y | y
  ·exact ⟨by omega, .inl (by rw [y]; simp)⟩
  ·rcases List.mem_append.1 y with y | y
   ·exact ⟨by have := hb q y; omega, .inl (List.mem_cons_of_mem _ (List.mem_append_left _ y))⟩
   ·rcases List.mem_append.1 y with y | y
    ·have y' : v3.ownBlock = some q := by simpa using y
     refine ⟨(own3 q y').2, ?_⟩
     rcases new3 q y' with u | u
     ·exact .inl (List.mem_cons_of_mem _ (List.mem_append_right _ (List.mem_append_left _ (by simp [u]))))
     ·exact .inr (by omega)
    ·rw [eb] at y
     rcases List.mem_append.1 y with y | y
     ·exact ⟨by have := old q y; omega, .inl (List.mem_cons_of_mem _ (List.mem_append_right _ (List.mem_append_right _ y)))⟩
     ·have := own2 q (by simpa using y)
      exact ⟨by omega, .inr this.1⟩
 ·intro i v hv
  rcases Nat.lt_or_ge i m with hi | hi
  ·rw [List.getElem?_append_left (by omega)] at hv
   refine (h4.touch t4 (fun q hq y => ?_)) i v hv
   have := old q hq
   rcases List.mem_cons.1 y with u | u
   ·omega
   ·exact (List.nodup_append.1 h5).2.2 q u q hq rfl
  ·have hlt := (List.getElem?_eq_some_iff.1 hv).1
   rw [List.length_append, hl] at hlt
   simp at hlt
   obtain rfl : i = m := by omega
   rw [List.getElem?_append_right (by omega), hl] at hv
   simp at hv
   subst hv
   refine ⟨A2, d2, by rw [hv2, hp], ?_⟩
   rw [hp]
   refine ts.row (tw.row (ybp (r1.alloc _) (by omega)) (fun q hq y => ?_)) (fun q hq y => ?_)
   ·have := own2 q hq
    have := own1 q (by simpa using y)
    omega
   ·have := own2 q hq
    simp at y
    omega
 ·rw [eb]
  refine List.nodup_append.2 ⟨by cases v3.ownBlock <;> simp, List.nodup_append.2 ⟨(List.nodup_append.1 h5).2.1, by cases v2.ownBlock <;> simp, ?_⟩, ?_⟩
  ·rintro a ha b hb' rfl
   have := old a ha
   have := own2 a (by simpa using hb')
   omega
  ·rintro a ha b hb' rfl
   have ha' : v3.ownBlock = some a := by simpa using ha
   rcases List.mem_append.1 hb' with y | y
   ·rcases new3 a ha' with u | u
    ·exact (List.nodup_append.1 h5).2.2 a (by simp [u]) a y rfl
    ·have := old a y
     omega
   ·have := own2 a (by simpa using y)
    rcases new3 a ha' with u | u
    ·have := own1 a u
     omega
    ·omega
 ·rcases List.mem_cons.1 y with u | u
  ·have := hb q hq; omega
  ·have := own1 q (by simpa using u)
   have := hb q hq
   omega
theorem yz4 (A : Option Addr) (c : Nat) (ms : List Item) (W : World) (hm : ms.length ≤ 100000) (hc : ms.length ≤ c) (hA : yiq W A ms) :
  Calls Tryz.prog 179 #[.slice A ms.length c] W (yzz W ms) := by
 obtain ⟨i0, hi0, hz0, hs0, hb0⟩ := yz0
 obtain ⟨b, off, hA⟩ := hA
 obtain ⟨n, hn⟩ : ∃ n, ms.length = n := ⟨_, rfl⟩
 obtain ⟨bs, hbs⟩ : ∃ bs, (if 0 < n then [b] else []) = bs := ⟨_, rfl⟩
 have hbW : ∀ q ∈ bs, q < W.heap.size := by
  rw [← hbs]
  split
  ·rename_i h
   intro q hq
   simp at hq
   subst hq
   exact (hA 0 (by omega)).2.1
  ·simp
 have HBS : Hid (0 < n → b ∈ bs) := fun h => by rw [← hbs, if_pos h]; simp
 have hcells : ∀ i (h : i < ms.length), W.cell? ⟨b, off + i * 2, none⟩ = some (.string (ms[i]).1) ∧ W.cell? ⟨b, off + i * 2 + 1, none⟩ = some (.string (ms[i]).2) := fun i h => (hA i h).2.2
 have hA1 : 1 ≤ n → A = some ⟨b, off, none⟩ := fun h => (hA 0 (by omega)).1
 have HN := Lib.hid hn
 have HA := Lib.hid hA1
 have HBW := Lib.hid hbW
 have HCE := Lib.hid hcells
 rw [hn] at hm hc ⊢
 clear hn hA hA1 hbW hbs hcells
 refine (callsIn_wide (n := 0)).1 (callsIn_of_wp_marks Tryz.func179 rfl trivial ?_ rfl)
 simp only [Tryz.ntmps179, List.size_toArray, List.length_cons, List.length_nil, Nat.reduceAdd, Nat.reduceSub, Array.replicate_succ, Array.replicate_zero, List.push_toArray, List.append_toArray, List.nil_append, List.cons_append]
 gi_wp2_with (refine ⟨trivial, rfl, ?_⟩; gi_at_call 198; refine (callsIn_wide.2 (yzx A n c _)).mono ?_; rintro e w' ⟨rfl, rfl⟩)
 have v1 : Var (((W.alloc (.cells #[.slice none 0 0] 56)).alloc (.cells #[.slice A n c] 22)).alloc (.cells #[.int .i64 4] 3)) W.heap.size (.slice none 0 0) := ((Var.new W _ _).old _).old _
 have v2 : (((W.alloc (.cells #[.slice none 0 0] 56)).alloc (.cells #[.slice A n c] 22)).alloc (.cells #[.int .i64 4] 3)).cell? ⟨W.heap.size + 1, 0, none⟩ = some (.slice A n c) := by go_simp
 have v3 : (((W.alloc (.cells #[.slice none 0 0] 56)).alloc (.cells #[.slice A n c] 22)).alloc (.cells #[.int .i64 4] 3)).cell? ⟨W.heap.size + 1 + 1, 0, none⟩ = some (.int .i64 4) := by go_simp
 obtain ⟨W2, hW2⟩ : ∃ W2, ((W.alloc (.cells #[.slice none 0 0] 56)).alloc (.cells #[.slice A n c] 22)).alloc (.cells #[.int .i64 4] 3) = W2 := ⟨_, rfl⟩
 rw [hW2] at v1 v2 v3
 have b2 : Below W.heap.size W W2 := by
  rw [← hW2]; exact (((Below.refl _ W).alloc (Nat.le_refl _) _).alloc (by simp) _).alloc (by simp; omega) _
 have z2 : W2.heap.size = W.heap.size + 3 := by rw [← hW2]; simp
 rw [hW2]
 have HB := Lib.hid b2
 have HLB : Hid (∀ q ∈ [W.heap.size + 1, W.heap.size + 1 + 1] ++ bs, q < W2.heap.size) := fun q hq => by
  rcases List.mem_append.1 hq with z | z
  ·simp at z; omega
  ·have := HBW.out q z; omega
 have HCL : Hid (∀ V, Below W.heap.size W V → ∀ i (h : i < ms.length), V.cell? ⟨b, off + i * 2, none⟩ = some (.string (ms[i]).1) ∧ V.cell? ⟨b, off + i * 2 + 1, none⟩ = some (.string (ms[i]).2)) := fun V hV i hi => by
  have hb := HBW.out b (HBS.out (by have := HN.out; omega))
  exact ⟨(hV.cell (p := ⟨b, off + i * 2, none⟩) hb).trans (HCE.out i hi).1, (hV.cell (p := ⟨b, off + i * 2 + 1, none⟩) hb).trans (HCE.out i hi).2⟩
 clear b2 hW2
 refine wp_seq (α := Value) (enc := fun v => #[v]) (gf := 218) (lb := #[.pointer (some ⟨W.heap.size + 1, 0, none⟩), .pointer (some ⟨W.heap.size + 1 + 1, 0, none⟩)]) rfl (enters_of Tryz.func218 (by kernel_rfl) rfl) (xs := chVs A n) (B := [W.heap.size + 1, W.heap.size + 1 + 1] ++ bs)
  (fun V hV => yzw (by omega) hc (fun h => ⟨b, off, HA.out h⟩) ((hV.cell (p := ⟨W.heap.size + 1, 0, none⟩) (World.block_lt_of_cell? W2 _ v2)).trans v2) ((hV.cell (p := ⟨W.heap.size + 1 + 1, 0, none⟩) (World.block_lt_of_cell? W2 _ v3)).trans v3) _ (by simp) (by simp) (fun q hq => by have := hV.size; have := HLB.out q hq; omega)) HLB.out (fun _ => rfl)
  (ChI W.heap.size W2.heap.size b off bs ms)
  (fun _ _ _ => False)
  (W.heap.size :: bs) (fun q hq => by
   rcases List.mem_cons.1 hq with rfl | z
   ·omega
   ·have := HBW.out q z; omega) ⟨none, 0, [], by simp [Value.ownBlock, ybn], v1, rfl, World.ownsRow_nil _ _ _ _, (fun i v h => by simp at h), by simp [Value.ownBlock, ybn], HCL.out _ HB.out⟩
  (by
   rintro m V V1 Y G ⟨A1, c1, vs, rfl, h1, h2, h3, h4, h5, h6⟩ tt hn
   refine ⟨A1, c1, vs, rfl, h1.touch tt (hn _ (by simp)), h2, tt.row h3 (fun q hq => hn q (by simp [hq])), h4.touch tt (fun q hq => hn q (by simp [hq])), h5, fun i hi => ?_⟩
   have hb : b ∈ bs := HBS.out (by have := HN.out; omega)
   exact ⟨yiu (h6 i hi).1 tt (hn _ (by simp [hb])), yiu (h6 i hi).2 tt (hn _ (by simp [hb]))⟩)
  (fun _ _ _ _ _ h _ _ => h)
  (fun x => { tmps := #[.slice A n c, undef, .slice none 0 0, .pointer (some ⟨W.heap.size, 0, none⟩), x, .slice A n c, .func (.func 218) #[] #[.pointer (some ⟨W.heap.size + 1, 0, none⟩), .pointer (some ⟨W.heap.size + 1 + 1, 0, none⟩)], x, undef, undef, undef, undef, undef, undef], defers := [] })
  ?assign ?body ?done ?stop
 case assign =>
  intro lp x V K hK
  gi_wp2
  exact hK
 case body =>
  rintro lp m x V Y hV hx ⟨A1, c1, vs, rfl, h1, h2, h3, h4, h5, h6⟩ hY
  have c2 := h1.val
  have f2 := h1.free
  have hmx : Tryz.prog.follows .mixedOrders = true := by kernel_rfl
  have hmK : m < (n + 3) / 4 := by
   have := (List.getElem?_eq_some_iff.1 hx).1
   simpa [chVs] using this
  obtain ⟨k, hk⟩ : ∃ k, min 4 (n - m * 4) = k := ⟨_, rfl⟩
  have hx' : x = .slice (some ⟨b, off + m * 4 * 2, none⟩) k k := by
   rw [chVs, List.getElem?_map, List.getElem?_range hmK] at hx
   simp only [Option.map_some, Option.some.injEq] at hx
   rw [← hx, HA.out (by omega), chV, hk]
  subst hx'
  have HPL : Hid ((piece ms m).length = k) := by
   show (piece ms m).length = k
   rw [yzy, HN.out, hk]
  have hcl := yij b (off + m * 4 * 2) k k (yaa (piece ms m)) V.drew (by rw [yb8, HPL.out]) (by omega) (fun j u hj => yz2 h6 j u hj) (ybc _)
  have HC := Lib.hid hcl
  clear hcl hx
  gi_wp2
  have H1 := Lib.hid h1
  have H3 := Lib.hid h3
  have hno : W.heap.size ∉ (Value.slice A1 m c1).ownBlock.toList := fun y => by
   have := (H3.out.lt _ (by simpa using y)).1
   omega
  have HV3 : Hid (∀ w1 w3 o, Below V.heap.size V w1 → (w1.alloc o).grownBy w3 (Value.slice A1 m c1).ownBlock → Var w3 W.heap.size (.slice A1 m c1)) :=
   fun w1 w3 o hb hg => ((H1.out.below hb).old o).touch ((Touch.refl (Value.slice A1 m c1).ownBlock.toList _).grown hg (fun q hq => .inl (by simp [hq]))) hno
  have HFIN : Hid (∀ w1 w3 A2 d2 A3 c3 o, Below V.heap.size V w1 → w1.ownsRow V.drew.heap.size 96 2 (.slice A2 k d2) k (yaa (piece ms m)) → w3.ownsRow W2.heap.size 22 1 (.slice A3 (m + 1) c3) (m + 1) (vs ++ [.slice A2 k d2]) → (w1.alloc o).grownBy w3 (Value.slice A1 m c1).ownBlock → yax (w1.alloc o) (.slice A1 m c1) (.slice A3 (m + 1) c3) →
    ∃ Y', Left ([W.heap.size + 1, W.heap.size + 1 + 1] ++ bs) (W.heap.size :: (bs ++ ((Value.slice A1 m c1).ownBlock.toList ++ ybn vs))) V (w3.setCell ⟨W.heap.size, 0, none⟩ (.slice A3 (m + 1) c3)) Y' ∧ ChI W.heap.size W2.heap.size b off bs ms (m + 1) (w3.setCell ⟨W.heap.size, 0, none⟩ (.slice A3 (m + 1) c3)) Y') := by
   intro w1 w3 A2 d2 A3 c3 o q1 q2 q3 q4 q5
   obtain ⟨y1, y2, y3, y4, y5, y6⟩ := yz3 (by omega) HBW.out H1.out h2 H3.out h4 h5 hV HPL.out q1 q2 q3 q4 q5
   refine ⟨_, y1, A3, c3, _, rfl, y2, by simp [h2], y3, y4, y5, fun i hi => ?_⟩
   have hb : b ∈ bs := HBS.out (by have := HN.out; omega)
   obtain ⟨⟨G, tG, hG⟩, _⟩ := y1
   have hnG : b ∉ G := fun z => (hG _ z).2 (List.mem_append_right _ hb)
   exact ⟨yiu (h6 i hi).1 tG hnG, yiu (h6 i hi).2 tG hnG⟩
  clear h1 h2 h3 h4 h5 h6 hno hY
  refine wpIn_region_any hmx ?_
  change wpAnyIn _ _ _ _ _ _ _ _ _ (World.drew _)
  refine wpAnyIn_ready (rs := [0, 1]) (by kernel_rfl) (by simp) ?_
  refine AllReadyIn.cons rfl (fun K hK => ?_) (AllReadyIn.cons rfl (fun K hK => ?_) AllReadyIn.nil)
  ·go_simp
   refine hK _ _ ?_
   clear hK K
   refine wpAnyIn_ready (rs := [1]) (by kernel_rfl) (by simp) ?_
   refine AllReadyIn.cons rfl (fun K hK => ?_) AllReadyIn.nil
   go_simp
   refine hK _ _ ?_
   clear hK K
   refine wpAnyIn_ready (rs := [2]) (by kernel_rfl) (by simp) ?_
   refine AllReadyIn.cons rfl (fun K hK => ?_) AllReadyIn.nil
   go_simp
   gi_wp2_with (refine ⟨trivial, rfl, ?_⟩; gi_at_call 199; refine (CallsIn.inRound lp (callsIn_wide.2 HC.out)).mono ?_; rintro e w1 ⟨v', rfl, r1, b1⟩; obtain ⟨A2, d2, rfl⟩ := yav r1; have b1 : Below V.heap.size V w1 := (Below.refl _ V).drew.trans b1; have c2 : w1.cell? ⟨W.heap.size, 0, none⟩ = some (.slice A1 m c1) := (H1.out.below b1).val; have c2a : ∀ o, (w1.alloc o).cell? ⟨W.heap.size, 0, none⟩ = some (.slice A1 m c1) := fun o => ((H1.out.below b1).old o).val; have HB1 := Lib.hid b1; have HR1 := Lib.hid r1; clear b1 r1)
   try (refine hK _ _ ?_; clear hK K)
   refine wpAnyIn_ready (rs := [3]) (by kernel_rfl) (by simp) ?_
   refine AllReadyIn.cons rfl (fun K hK => ?_) AllReadyIn.nil
   go_simp
   refine hK _ _ ?_
   clear hK K
   refine wpAnyIn_ready (rs := [4]) (by kernel_rfl) (by simp) ?_
   refine AllReadyIn.cons rfl (fun K hK => ?_) AllReadyIn.nil
   refine yit rfl (.tmp 8) (.tmp 11) 56 rfl W2.heap.size 22 i0 (.slice none 0 0) 1 24 Tryz.underlying56 hi0 hz0 hs0 hb0 rfl (by decide) (.slice A1 m c1) m vs rfl ((yiv H3.out HB1.out).alloc _) (.slice (some ⟨w1.heap.size, 0, none⟩) 1 1) 1 [.slice A2 k d2] rfl (.inr ⟨_, _, rfl, rfl, cell_one_new _ _ _⟩) (fun u hu => by simp at hu; subst hu; rfl) (by unfold maxLen; omega) (by omega) (by have := HB1.out.size; simp; omega) ?_
   intro A3 c3 w3 ho3 hg3 hs3
   have k3 := HV3.out w1 w3 _ HB1.out hg3
   have f3 := k3.free
   have c3' := k3.val
   have HFE := Lib.hid (HFIN.out _ _ _ _ _ _ _ HB1.out HR1.out ho3 hg3 hs3)
   clear k3 ho3 hg3 hs3
   refine hK _ _ ?_
   clear hK K
   refine wpAnyIn_ready (rs := [5]) (by kernel_rfl) (by simp) ?_
   refine AllReadyIn.cons rfl (fun K hK => ?_) AllReadyIn.nil
   go_simp
   refine hK _ _ ?_
   clear hK K
   refine wpAnyIn_done (by kernel_rfl) ?_ _
   gi_wp2
   exact HFE.out
  ·go_simp
   refine hK _ _ ?_
   clear hK K
   refine wpAnyIn_ready (rs := [0, 2]) (by kernel_rfl) (by simp) ?_
   refine AllReadyIn.cons rfl (fun K hK => ?_) (AllReadyIn.cons rfl (fun K hK => ?_) AllReadyIn.nil)
   ·go_simp
    refine hK _ _ ?_
    clear hK K
    refine wpAnyIn_ready (rs := [2]) (by kernel_rfl) (by simp) ?_
    refine AllReadyIn.cons rfl (fun K hK => ?_) AllReadyIn.nil
    go_simp
    gi_wp2_with (refine ⟨trivial, rfl, ?_⟩; gi_at_call 199; refine (CallsIn.inRound lp (callsIn_wide.2 HC.out)).mono ?_; rintro e w1 ⟨v', rfl, r1, b1⟩; obtain ⟨A2, d2, rfl⟩ := yav r1; have b1 : Below V.heap.size V w1 := (Below.refl _ V).drew.trans b1; have c2 : w1.cell? ⟨W.heap.size, 0, none⟩ = some (.slice A1 m c1) := (H1.out.below b1).val; have c2a : ∀ o, (w1.alloc o).cell? ⟨W.heap.size, 0, none⟩ = some (.slice A1 m c1) := fun o => ((H1.out.below b1).old o).val; have HB1 := Lib.hid b1; have HR1 := Lib.hid r1; clear b1 r1)
    try (refine hK _ _ ?_; clear hK K)
    refine wpAnyIn_ready (rs := [3]) (by kernel_rfl) (by simp) ?_
    refine AllReadyIn.cons rfl (fun K hK => ?_) AllReadyIn.nil
    go_simp
    refine hK _ _ ?_
    clear hK K
    refine wpAnyIn_ready (rs := [4]) (by kernel_rfl) (by simp) ?_
    refine AllReadyIn.cons rfl (fun K hK => ?_) AllReadyIn.nil
    refine yit rfl (.tmp 8) (.tmp 11) 56 rfl W2.heap.size 22 i0 (.slice none 0 0) 1 24 Tryz.underlying56 hi0 hz0 hs0 hb0 rfl (by decide) (.slice A1 m c1) m vs rfl ((yiv H3.out HB1.out).alloc _) (.slice (some ⟨w1.heap.size, 0, none⟩) 1 1) 1 [.slice A2 k d2] rfl (.inr ⟨_, _, rfl, rfl, cell_one_new _ _ _⟩) (fun u hu => by simp at hu; subst hu; rfl) (by unfold maxLen; omega) (by omega) (by have := HB1.out.size; simp; omega) ?_
    intro A3 c3 w3 ho3 hg3 hs3
    have k3 := HV3.out w1 w3 _ HB1.out hg3
    have f3 := k3.free
    have c3' := k3.val
    have HFE := Lib.hid (HFIN.out _ _ _ _ _ _ _ HB1.out HR1.out ho3 hg3 hs3)
    clear k3 ho3 hg3 hs3
    refine hK _ _ ?_
    clear hK K
    refine wpAnyIn_ready (rs := [5]) (by kernel_rfl) (by simp) ?_
    refine AllReadyIn.cons rfl (fun K hK => ?_) AllReadyIn.nil
    go_simp
    refine hK _ _ ?_
    clear hK K
    refine wpAnyIn_done (by kernel_rfl) ?_ _
    gi_wp2
    exact HFE.out
   ·go_simp
    gi_wp2_with (refine ⟨trivial, rfl, ?_⟩; gi_at_call 199; refine (CallsIn.inRound lp (callsIn_wide.2 HC.out)).mono ?_; rintro e w1 ⟨v', rfl, r1, b1⟩; obtain ⟨A2, d2, rfl⟩ := yav r1; have b1 : Below V.heap.size V w1 := (Below.refl _ V).drew.trans b1; have c2 : w1.cell? ⟨W.heap.size, 0, none⟩ = some (.slice A1 m c1) := (H1.out.below b1).val; have c2a : ∀ o, (w1.alloc o).cell? ⟨W.heap.size, 0, none⟩ = some (.slice A1 m c1) := fun o => ((H1.out.below b1).old o).val; have HB1 := Lib.hid b1; have HR1 := Lib.hid r1; clear b1 r1)
    try (refine hK _ _ ?_; clear hK K)
    refine wpAnyIn_ready (rs := [0, 3]) (by kernel_rfl) (by simp) ?_
    refine AllReadyIn.cons rfl (fun K hK => ?_) (AllReadyIn.cons rfl (fun K hK => ?_) AllReadyIn.nil)
    ·go_simp
     refine hK _ _ ?_
     clear hK K
     refine wpAnyIn_ready (rs := [3]) (by kernel_rfl) (by simp) ?_
     refine AllReadyIn.cons rfl (fun K hK => ?_) AllReadyIn.nil
     go_simp
     refine hK _ _ ?_
     clear hK K
     refine wpAnyIn_ready (rs := [4]) (by kernel_rfl) (by simp) ?_
     refine AllReadyIn.cons rfl (fun K hK => ?_) AllReadyIn.nil
     refine yit rfl (.tmp 8) (.tmp 11) 56 rfl W2.heap.size 22 i0 (.slice none 0 0) 1 24 Tryz.underlying56 hi0 hz0 hs0 hb0 rfl (by decide) (.slice A1 m c1) m vs rfl ((yiv H3.out HB1.out).alloc _) (.slice (some ⟨w1.heap.size, 0, none⟩) 1 1) 1 [.slice A2 k d2] rfl (.inr ⟨_, _, rfl, rfl, cell_one_new _ _ _⟩) (fun u hu => by simp at hu; subst hu; rfl) (by unfold maxLen; omega) (by omega) (by have := HB1.out.size; simp; omega) ?_
     intro A3 c3 w3 ho3 hg3 hs3
     have k3 := HV3.out w1 w3 _ HB1.out hg3
     have f3 := k3.free
     have c3' := k3.val
     have HFE := Lib.hid (HFIN.out _ _ _ _ _ _ _ HB1.out HR1.out ho3 hg3 hs3)
     clear k3 ho3 hg3 hs3
     refine hK _ _ ?_
     clear hK K
     refine wpAnyIn_ready (rs := [5]) (by kernel_rfl) (by simp) ?_
     refine AllReadyIn.cons rfl (fun K hK => ?_) AllReadyIn.nil
     go_simp
     refine hK _ _ ?_
     clear hK K
     refine wpAnyIn_done (by kernel_rfl) ?_ _
     gi_wp2
     exact HFE.out
    ·go_simp
     refine hK _ _ ?_
     clear hK K
     refine wpAnyIn_ready (rs := [0]) (by kernel_rfl) (by simp) ?_
     refine AllReadyIn.cons rfl (fun K hK => ?_) AllReadyIn.nil
     go_simp
     refine hK _ _ ?_
     clear hK K
     refine wpAnyIn_ready (rs := [4]) (by kernel_rfl) (by simp) ?_
     refine AllReadyIn.cons rfl (fun K hK => ?_) AllReadyIn.nil
     refine yit rfl (.tmp 8) (.tmp 11) 56 rfl W2.heap.size 22 i0 (.slice none 0 0) 1 24 Tryz.underlying56 hi0 hz0 hs0 hb0 rfl (by decide) (.slice A1 m c1) m vs rfl ((yiv H3.out HB1.out).alloc _) (.slice (some ⟨w1.heap.size, 0, none⟩) 1 1) 1 [.slice A2 k d2] rfl (.inr ⟨_, _, rfl, rfl, cell_one_new _ _ _⟩) (fun u hu => by simp at hu; subst hu; rfl) (by unfold maxLen; omega) (by omega) (by have := HB1.out.size; simp; omega) ?_
     intro A3 c3 w3 ho3 hg3 hs3
     have k3 := HV3.out w1 w3 _ HB1.out hg3
     have f3 := k3.free
     have c3' := k3.val
     have HFE := Lib.hid (HFIN.out _ _ _ _ _ _ _ HB1.out HR1.out ho3 hg3 hs3)
     clear k3 ho3 hg3 hs3
     refine hK _ _ ?_
     clear hK K
     refine wpAnyIn_ready (rs := [5]) (by kernel_rfl) (by simp) ?_
     refine AllReadyIn.cons rfl (fun K hK => ?_) AllReadyIn.nil
     go_simp
     refine hK _ _ ?_
     clear hK K
     refine wpAnyIn_done (by kernel_rfl) ?_ _
     gi_wp2
     exact HFE.out
 case done =>
  rintro D V Y hD hDn hL ⟨A1, c1, vs, rfl, h1, h2, h3, h4, h5, h6⟩ hK
  have hlen : (chVs A n).length = (n + 3) / 4 := by simp [chVs]
  rw [hlen] at h1 h2 h3 h5 hDn hL
  have c2 := h1.val
  have HK := Lib.hid hK
  have hp : Touch [D] V (V.putObj D (.deferred none)) := (Touch.refl _ _).put (.inl (by simp)) _
  have HD : Hid (Below W.heap.size W (V.putObj D (.deferred none))) := by
   obtain ⟨⟨G, tG, hG⟩, _⟩ := hL
   refine Touch.acc (Touch.acc HB.out tG (fun q hq => ?_)) hp (by simp; omega)
   obtain ⟨g1, g2⟩ := hG q hq
   rcases List.mem_cons.1 g1 with y | y
   ·omega
   ·exact absurd (List.mem_append_right _ y) g2
  have hnD : ∀ q, q ∈ (Value.slice A1 ((n + 3) / 4 : Nat) c1).ownBlock.toList ++ ybn vs → q ∉ [D] := fun q hq y => hDn (by
   simp at y
   subst y
   exact List.mem_cons_of_mem _ (List.mem_append_right _ hq))
  have HR3 : Hid ((V.putObj D (.deferred none)).ownsRow W.heap.size 22 1 (.slice A1 ((n + 3) / 4 : Nat) c1) ((n + 3) / 4) vs) := ybp (hp.row h3 (fun q hq => hnD q (List.mem_append_left _ (by simp [hq])))) (by omega)
  have HP4 : Hid (ydm (V.putObj D (.deferred none)) W.heap.size ms vs) := fun i v hv => by
   obtain ⟨A, c, e, r⟩ := (h4.touch hp (fun q hq => hnD q (List.mem_append_right _ hq))) i v hv
   exact ⟨A, c, e, ybp r (by omega)⟩
  have H2 := Lib.hid h2
  have H5 := Lib.hid h5
  clear h1 h2 h3 h4 h5 h6 hL hDn hnD hp
  gi_wp2
  refine ⟨by simp, .inl ⟨_, _, rfl, run_takeDeferred HK.out, ?_⟩⟩
  exact ⟨_, results_tmp rfl _ _ _, A1, c1, vs, by rw [HN.out]; rfl, by rw [HN.out]; exact H2.out, by rw [HN.out]; exact HR3.out, HP4.out, by rw [HN.out]; exact H5.out, HD.out⟩
 case stop =>
  rintro D c V Y hD hDn hL h hK
  exact h.elim
end Go.Proofs.YtnjodhglbapnlaaGreat
namespace Go.Proofs.YtnjodhglbapnlaaGreat
open Go.RowKit
attribute [local go_sem] Oper.semAt_some
abbrev encC (x : Nat × Value) : Array Value := #[.int .i64 (x.1 : Nat), x.2]
def yky (ms : List Item) (n : Nat) (x : Nat × Value) (w : World) (Z : List Nat) : Prop :=
 x.1 = n + 1 ∧ Z = x.2.ownBlock.toList ∧ ∃ A c, x.2 = .slice A (piece ms n).length c ∧ w.ownsRow 0 96 2 (.slice A (piece ms n).length c) (piece ms n).length (yaa (piece ms n))
theorem yz5 (ms : List Item) (n : Nat) (x : Nat × Value) : Abid (yky ms n x) := by
 rintro w w1 Z G ⟨h1, rfl, A, c, h2, h3⟩ t hn
 exact ⟨h1, rfl, A, c, h2, t.row h3 fun q hq => hn q (by rw [h2]; simpa using hq)⟩
theorem Left.wide {B Y Y' Z : List Nat} {W w : World} (h : Left B Y W w Y') (hZ : ∀ q ∈ Z, W.heap.size ≤ q ∧ q < w.heap.size) : Left B Y W w (Z ++ Y') :=
 ⟨h.1, fun q hq => (List.mem_append.1 hq).elim (fun z => ⟨(hZ q z).2, .inr (hZ q z).1⟩) (h.2 q)⟩
theorem ypm : ∀ {vs : List Value}, (ybn vs).Nodup → ∀ {i j : Nat} {x y : Value} {q : Nat}, vs[i]? = some x → vs[j]? = some y → x.ownBlock = some q → y.ownBlock = some q → i = j
 | [], _, _, _, _, _, _, hi, _, _, _ => by simp at hi
 | a :: r, h, i, j, x, y, q, hi, hj, hx, hy => by
  have h' : (a.ownBlock.toList ++ ybn r).Nodup := h
  obtain ⟨_, n2, n3⟩ := List.nodup_append.1 h'
  cases i with
  | zero =>
   cases j with
   | zero => rfl
   | succ j =>
    obtain rfl : a = x := by simpa using hi
    exact absurd rfl (n3 q (by simp [hx]) q (yg4.2 ⟨y, List.mem_of_getElem? (by simpa using hj), hy⟩))
  | succ i =>
   cases j with
   | zero =>
    obtain rfl : a = y := by simpa using hj
    exact absurd rfl (n3 q (by simp [hy]) q (yg4.2 ⟨x, List.mem_of_getElem? (by simpa using hi), hx⟩))
   | succ j => exact congrArg (· + 1) (ypm (i := i) (j := j) n2 (by simpa using hi) (by simpa using hj) hx hy)
theorem ypn {W : World} {A : Option Addr} {n c : Nat} {xs : List Value} {base e size : Nat} (h : W.ownsRow base e size (.slice A n c) n xs) (hn : 0 < n) : ∃ q, A = some ⟨q, 0, none⟩ := by
 rcases h.2 with ⟨h0, _⟩ | ⟨g, cap, cur, h0, _⟩
 ·injection h0 with _ h1 _; omega
 ·injection h0 with h1 _ _; exact ⟨g, h1⟩
theorem ypo {W : World} {base e size n : Nat} {v : Value} {xs : List Value} (h : W.ownsRow base e size v n xs) : ∃ A c, v = .slice A n c ∧ n ≤ c ∧ c ≤ maxLen := by
 rcases h.2 with ⟨rfl, rfl⟩ | ⟨g, cap, cur, h0, _, _, h1, h2, _⟩
 ·exact ⟨none, 0, rfl, Nat.le_refl _, Nat.zero_le _⟩
 ·exact ⟨_, _, h0, h1, h2⟩
def Rest (base : Nat) (ms : List Item) (vs : List Value) (i : Nat) (V : World) (Y : List Nat) : Prop := ∀ (j : Nat) (x : Value), i ≤ j → vs[j]? = some x →
 (∃ A c, x = .slice A (piece ms j).length c ∧ V.ownsRow base 96 2 (.slice A (piece ms j).length c) (piece ms j).length (yaa (piece ms j))) ∧ ∀ q, x.ownBlock = some q → q ∉ Y
theorem ypp {W : World} {A : Option Addr} {c n : Nat} {ms : List Item} {base : Nat} (hn : ms.length = n) (h : W.ownsRow base 96 2 (.slice A n c) n (yaa ms)) : yiq W A ms := by
 subst hn
 rcases Nat.eq_zero_or_pos ms.length with z | z
 ·exact ⟨0, 0, fun i hi => by omega⟩
 ·obtain ⟨q, rfl⟩ := ypn h z
  refine ⟨q, 0, fun i hi => ⟨rfl, (h.lt q rfl).2, ?_, ?_⟩⟩
  ·have := h.cellAt (i * 2) (by have := h.1; omega)
   rw [Nat.zero_add, this]
   exact ycc ms i hi
  ·have := h.cellAt (i * 2 + 1) (by have := h.1; omega)
   rw [Nat.zero_add, this]
   exact yci ms i hi
theorem yz6 {W : World} {p : Nat} {v : GV} {S : Value} (h : VM W p v S) (hst : v.st ≤ 2) {b : Nat} (hc : W.cell? ⟨b, 0, none⟩ = some (.pointer (some ⟨p, 0, none⟩))) (B : List Nat) :
  WayZ 178 #[.pointer (some ⟨b, 0, none⟩)] encC (yky v.its) ((v.its.length + 3) / 4) B W := by
 intro l J Q Y0 hY0 h0 hJ hQ hR
 have H0 := Lib.hid h0
 have HJ := Lib.hid hJ
 have HR := Lib.hid hR
 have HY0 := Lib.hid hY0
 clear h0 hJ hR hQ hY0
 have hp7 := h.cell (i := 7) rfl
 have hfew := h.few
 rcases h.its with ⟨_, A, c, rfl, row⟩ | ⟨z, _⟩
 case inr => omega
 obtain ⟨_, _, hA0, hnc, hcm⟩ := ypo row
 injection hA0 with hc1 _ hc0
 subst hc1 hc0
 have CC := Lib.hid (yz4 A c v.its W (by omega) hnc (ypp rfl row))
 have hpl := h.lt
 clear h row
 obtain ⟨m, hm⟩ : ∃ m, (v.its.length + 3) / 4 = m := ⟨_, rfl⟩
 have hm9 : m ≤ 1000 := by omega
 obtain ⟨ms, hms⟩ : ∃ ms, v.its = ms := ⟨_, rfl⟩
 rw [hms] at hm hnc CC hp7 hfew ⊢
 rw [hms] at HR
 rw [hm] at HR ⊢
 obtain ⟨n, hn⟩ : ∃ n, ms.length = n := ⟨_, rfl⟩
 rw [hn] at hp7 CC
 have HM := Lib.hid hm
 clear hms hm hn hst hnc hcm hfew
 go_enter Tryz.func178, Tryz.ntmps178
 go_wp2_with (go_at_call 179; go_loud ((with_reducible refine (CC.out).mono ?_); rintro e w1 ⟨A1, c1, vs, rfl, hvl, ho, hP, hnd, hb⟩; rw [HM.out] at ho hvl hnd ⊢; have HO := Lib.hid ho; have HB := Lib.hid hb; have HP := Lib.hid hP; have HN := Lib.hid hnd; have HVL := Lib.hid hvl; clear ho hb hP hnd hvl))
 clear CC hc hp7
 go_loopg [11] (m + 1) (fun gh s8 wx => ∃ i Y, i + gh = m + 1 ∧ i ≤ m ∧ s8 = .int .i64 (i : Nat) ∧ Hid (J i wx Y) ∧ Hid (Left B Y0 W wx Y) ∧ Hid (wx.ownsRow W.heap.size 22 1 (.slice A1 m c1) m vs ∧ ∀ q, (Value.slice A1 m c1).ownBlock = some q → q ∉ Y) ∧ Hid (Rest W.heap.size ms vs i wx Y))
 case atStart =>
  have hn0 : ∀ q, W.heap.size ≤ q → q ∉ Y0 := fun q hq z => by have := HY0.out q z; omega
  refine ⟨0, Y0, by omega, by omega, rfl, HJ.out 0 W w1 Y0 [] H0.out (Touch.ofBelow HB.out) (by simp), ⟨⟨[], Touch.ofBelow HB.out, by simp⟩, fun q hq => ⟨Nat.lt_of_lt_of_le (HY0.out q hq) HB.out.size, .inl hq⟩⟩, ⟨HO.out, fun q hq => hn0 q (HO.out.lt q hq).1⟩, fun j x _ hx => ?_⟩
  obtain ⟨A, c, rfl, r⟩ := HP.out j x hx
  exact ⟨⟨A, c, rfl, r⟩, fun q hq => hn0 q (r.lt q hq).1⟩
 case round =>
  obtain ⟨i, Y, hig, hi, rfl, HJi, HL, HO', HA⟩ := hrel
  by_cases hlt : i < m
  ·obtain ⟨q, rfl⟩ := ypn HO'.out.1 (by omega)
   obtain ⟨x, hx⟩ : ∃ x, vs[i]? = some x := ⟨_, List.getElem?_eq_getElem (by rw [HVL.out]; exact hlt)⟩
   obtain ⟨⟨A2, c2, rfl, r2⟩, hn2⟩ := HA.out i x (Nat.le_refl _) hx
   have ce : wr.cell? ⟨q, i, none⟩ = some (.slice A2 (piece ms i).length c2) := by
    rw [HO'.out.1.cellAt i (by omega), hx]
   have hz : ∀ z ∈ (Value.slice A2 (piece ms i).length c2).ownBlock.toList, W.heap.size ≤ z ∧ z < wr.heap.size := fun z hz => r2.lt z (by simpa using hz)
   have hY1 := HR.out i (i + 1, .slice A2 (piece ms i).length c2) wr Y _ hlt ⟨rfl, rfl, A2, c2, rfl, ybp r2 (Nat.zero_le _)⟩ HJi.out (fun z hzz => by
    rcases List.mem_append.1 hzz with y | y
    ·exact (hz z y).2
    ·exact (HL.out.2 z y).1) (fun z hzz => ⟨(hz z hzz).1, hn2 z (by simpa using hzz)⟩)
   obtain ⟨k, hk⟩ : ∃ k, (piece ms i).length = k := ⟨_, rfl⟩
   have HZ := Lib.hid hz
   have HX := Lib.hid hx
   rw [hk] at ce HZ HX hY1
   have HK := Lib.hid hk
   have i1 : (i : Int) < (m : Int) := by omega
   rw [show encC (i + 1, Value.slice A2 k c2) = #[.int .i64 ((i : Int) + 1), .slice A2 k c2] from rfl] at hY1
   clear r2 hn2 hz hx hk
   go_upto_region 3 with fail
   obtain ⟨fn, tmps, assign, body, hy, hr⟩ := hY1
   have HRR := Lib.hid hr
   clear hr
   refine (wpIn_wide (n := 0)).1 ?_
   gi_wp2
   refine ⟨rfl, ?_⟩
   refine (RoundIn.deep HRR.out).mono ?_
   rintro e w2 ⟨Y2, hL2, (⟨rfl, hj⟩ | ⟨rfl, hq⟩)⟩
   ·have hL3 : Left B Y0 W wr ((Value.slice A2 k c2).ownBlock.toList ++ Y) := HL.out.wide HZ.out
    have HL3 := Lib.hid (hL3.trans hL2)
    have hln : ∀ z, (Value.slice (some ⟨q, 0, none⟩) m c1).ownBlock = some z → z ∉ (Value.slice A2 k c2).ownBlock.toList ++ Y := fun z hz1 hz2 => by
     rcases List.mem_append.1 hz2 with y | y
     ·exact (List.nodup_append.1 HN.out).2.2 z (by simpa using hz1) z (yg4.2 ⟨_, List.mem_of_getElem? HX.out, by simpa using y⟩) rfl
     ·exact HO'.out.2 z hz1 y
    have HO3 := Lib.hid (hL2.row HO'.out.1 hln)
    have HR3 : Hid (Rest W.heap.size ms vs (i + 1) w2 Y2) := fun j x hij hx => by
     obtain ⟨⟨A3, c3, rfl, r3⟩, n3⟩ := HA.out j x (by omega) hx
     have z := hL2.row r3 (fun z hz1 hz2 => by
      rcases List.mem_append.1 hz2 with y | y
      ·have := ypm (List.nodup_append.1 HN.out).2.1 hx HX.out hz1 (by simpa using y)
       omega
      ·exact n3 z hz1 y)
     exact ⟨⟨A3, c3, rfl, z.1⟩, z.2⟩
    have HJ3 := Lib.hid hj
    clear hL2 hL3 hln hj hy
    gi_wp2
    go_wp2_with fail
    go_roundg (gk - 1)
    case measure => omega
    case rel => exact ⟨i + 1, Y2, by omega, by omega, by go_num, HJ3, HL3, HO3, HR3⟩
   ·have hL3 : Left B Y0 W wr ((Value.slice A2 k c2).ownBlock.toList ++ Y) := HL.out.wide HZ.out
    clear hy
    gi_wp2
    go_wp2_with fail
    refine bodyPost_ret (results_none rfl _ _ _) rfl ?_
    exact ⟨rfl, Y2, hL3.trans hL2, .inr hq⟩
  ·obtain rfl : i = m := by omega
   go_wp2_with fail
   go_end0
   exact ⟨rfl, Y, HL.out, .inl HJi.out⟩
theorem yz7 (p : Option Addr) (W : World) : Calls Tryz.prog 126 #[.pointer p] W fun e w' =>
  e = .returned (.func (.func 178) #[] #[.pointer (some ⟨W.heap.size, 0, none⟩)]) ∧ w' = W.alloc (.cells #[.pointer p] 32) := by
 go_enter Tryz.func126, Tryz.ntmps126
 go_wp2_with fail
 go_ret
 exact ⟨rfl, rfl⟩
end Go.Proofs.YtnjodhglbapnlaaGreat
namespace Go.Proofs.YtnjodhglbapnlaaGreat
open Go.RowKit
attribute [local go_sem] Oper.semAt_some
theorem yem {W w : World} {b : Nat} (h : Below W.heap.size W w) (hb : W.heap.size ≤ b) (i : Nat) (u : Value) : Below W.heap.size W (w.setCell ⟨b, i, none⟩ u) := by
 refine ⟨h.os, h.tape, h.output, ?_, fun k hk => ?_⟩
 ·simpa [World.setCell] using h.size
 ·rw [← h.block k hk]
  simp only [World.setCell]
  rw [Array.getElem?_modify]
  split
  ·omega
  ·rfl
theorem yco {w : World} {b : Nat} {cs : Array Value} {T : TypeId} (h : w.heap[b]? = some (.cells cs T)) (i : Nat) (u : Value) : (w.setCell ⟨b, i, none⟩ u).heap[b]? = some (.cells (cs.setIfInBounds i u) T) := by
 simp [World.setCell, Array.getElem?_modify, h]
abbrev LV.arc (l : LV) (f t : Nat) (ep : Int) : LV := ⟨l.k, l.f, l.t, l.i, l.op, l.key, l.val, l.kto, l.most, l.er, l.tv, l.ti, l.more, l.nx, l.tn, f, t, ep, l.li, l.n, l.nd⟩
theorem ypq {w : World} {p : Nat} {v : GV} {S : Value} (k : Int) (h : VM w p v S) : Calls Tryz.prog 35 #[.pointer (some ⟨p, 0, none⟩), .int .i64 k] w fun e w' => e = .returned (.agg (yak ((LV.bare k v.me v.to_ v.id).arc v.f v.t v.ep))) ∧ Below w.heap.size w w' := by
 have hL : p < w.heap.size := h.lt
 have HY := heap_alloc_new w (.cells ya5 49)
 have B0 := (Below.refl w.heap.size w).alloc (Nat.le_refl _) (.cells ya5 49)
 have h1 := h.below B0
 have hz0 : (w.alloc (.cells ya5 49)).heap.size = w.heap.size + 1 := by simp
 have CL := Lib.hid (ykx k h1)
 clear h
 go_enter Tryz.func35, Tryz.ntmps35
 go_upto_region 1 with fail
 obtain ⟨b4, hb4⟩ : ∃ b4, w.heap.size = b4 := ⟨_, rfl⟩
 have HQ4 : Hid (w.heap.size ≤ b4) := Nat.le_of_eq hb4
 rw [hb4] at HY hz0
 obtain ⟨w0, hw0⟩ : ∃ w0, w.alloc (.cells ya5 49) = w0 := ⟨_, rfl⟩
 rw [hw0] at HY B0 h1 CL hz0
 rw [hw0]
 try rw [hb4]
 clear hw0 hb4
 have HY0 := Lib.hid HY
 have HB0 := Lib.hid B0
 have H0 := Lib.hid h1
 have HZ0 := Lib.hid hz0
 clear HY B0 h1 hz0
 have hone := yfz (LV.bare k v.me v.to_ v.id)
 have hi1 : (Tryz.prog.info? 49).map (·.size) = some (yak (LV.bare k v.me v.to_ v.id)).size := yel
 have ho1 : ya5.size = (yak (LV.bare k v.me v.to_ v.id)).size := rfl
 go_upto_region 2 with (first
  | (go_at_call 50; (with_reducible refine (CL.out).mono ?_); rintro e w1 ⟨rfl, hb1⟩; have HB1 := Lib.hid hb1; have hx1 := heap_alloc_new w1 (.cells ya5 49); clear hb1)
  | (with_reducible (show wpList _ _ _ (⟨none, Op.store _ (Operand.tmp 5) _, _, _, _, _⟩ :: _) _ _); go_must (refine wpList_store_row rfl 49 (.tmp 5) (.tmp 8) rfl w1.heap.size (yak (LV.bare k v.me v.to_ v.id)) rfl rfl 49 ya5 hx1 hi1 ho1 hone ?_)))
 have hb2 : Below w1.heap.size w1 ((w1.alloc (.cells ya5 49)).setRow w1.heap.size (yak (LV.bare k v.me v.to_ v.id))) := yka w1 _ _ _
 have hx2 := ygo (yak (LV.bare k v.me v.to_ v.id)) hx1
 have h1 := H0.out.below HB1.out
 have HSS : Hid (∀ w', Below w1.heap.size w1 w' → w'.cell? ⟨p, 1, none⟩ = some (.int .u64 (v.f : Nat)) ∧ w'.cell? ⟨p, 2, none⟩ = some (.int .u64 (v.t : Nat)) ∧ w'.cell? ⟨p, 3, none⟩ = some (.int .i64 v.ep)) := fun w' t => ⟨(h1.below t).cell rfl, (h1.below t).cell rfl, (h1.below t).cell rfl⟩
 have hz1 : b4 < w1.heap.size := by have := HB1.out.size; have := HZ0.out; omega
 have hy1 := (HB1.out.block _ (yca HY0.out)).trans HY0.out
 obtain ⟨w2, hw2⟩ : ∃ w2, (w1.alloc (.cells ya5 49)).setRow w1.heap.size (yak (LV.bare k v.me v.to_ v.id)) = w2 := ⟨_, rfl⟩
 rw [hw2] at hb2 hx2
 rw [hw2]
 obtain ⟨b5, hb5⟩ : ∃ b5, w1.heap.size = b5 := ⟨_, rfl⟩
 have HQ5 : Hid (w1.heap.size ≤ b5) := Nat.le_of_eq hb5
 rw [hb5] at hx2
 try rw [hb5]
 clear hw2 hb5 hx1
 have HB2 := Lib.hid hb2
 have HX2 := Lib.hid hx2
 have HY2 : Hid (w2.heap[b4]? = some (.cells ya5 49)) := (HB2.out.block _ (yca hy1)).trans hy1
 have x15 := yaw HX2.out (o := 15) rfl
 have x16 := yaw HX2.out (o := 16) rfl
 have x17 := yaw HX2.out (o := 17) rfl
 have g15 : w2.frozen? ⟨b5, 15, none⟩ = false := by simp [World.frozen?, HX2.out]
 have g16 : w2.frozen? ⟨b5, 16, none⟩ = false := by simp [World.frozen?, HX2.out]
 have g17 : w2.frozen? ⟨b5, 17, none⟩ = false := by simp [World.frozen?, HX2.out]
 clear hb2 hx2 hy1 h1 hone hi1 ho1
 refine ybe (fun w' => w'.cell? ⟨p, 1, none⟩ = some (.int .u64 (v.f : Nat)) ∧ w'.cell? ⟨p, 2, none⟩ = some (.int .u64 (v.t : Nat)) ∧ w'.cell? ⟨p, 3, none⟩ = some (.int .i64 v.ep)) 11 (by kernel_rfl) ?_ (fun hHeld => ?_)
 ·(try dsimp only); exact HSS.out _ HB2.out.drew
 refine wtP 0 ?_
 try simp only [Act.put, wsA, wsB, wsC]
 refine wtP 1 ?_
 try simp only [Act.put, wsA, wsB, wsC]
 refine wtP 2 ?_
 try simp only [Act.put, wsA, wsB, wsC]
 refine wtP 4 ?_
 try simp only [Act.put, wsA, wsB, wsC]
 refine wtP 5 ?_
 try simp only [Act.put, wsA, wsB, wsC]
 refine wtP 6 ?_
 try simp only [Act.put, wsA, wsB, wsC]
 refine wtT 3 ?_
 try simp only [Act.put, wsA, wsB, wsC]
 refine wtP 8 ?_
 try simp only [Act.put, wsA, wsB, wsC]
 refine wtT 7 ?_
 try simp only [Act.put, wsA, wsB, wsC]
 refine wtC 9 fun K hK => ?_
 go_simp
 refine hK.out _ _ (by (try dsimp only); first | assumption | exact HSS.out _ HB2.out.drew | exact HSS.out _ (yem (yem HB2.out.drew HQ5.out _ _) HQ5.out _ _)) (fun hHeld => ?_)
 clear hK K
 try simp only [Act.put, wsA, wsB, wsC]
 refine wtP 10 ?_
 try simp only [Act.put, wsA, wsB, wsC]
 refine wtD 11 fun K hK => ?_
 go_simp
 refine hK.out _ _ ?_
 clear hK K
 try simp only [Act.put, wsA, wsB, wsC]
 refine ya8 (by kernel_rfl) ?_ _
 have hx3 : ((((w2.setCell ⟨b5, 15, none⟩ (.int .u64 (v.f : Nat))).setCell ⟨b5, 16, none⟩ (.int .u64 (v.t : Nat))).setCell ⟨b5, 17, none⟩ (.int .i64 v.ep)).drew).heap[b5]? = some (.cells (yak ((LV.bare k v.me v.to_ v.id).arc v.f v.t v.ep)) 49) := yco (yco (yco HX2.out 15 _) 16 _) 17 _
 have hb3 : Below w1.heap.size w1 ((((w2.setCell ⟨b5, 15, none⟩ (.int .u64 (v.f : Nat))).setCell ⟨b5, 16, none⟩ (.int .u64 (v.t : Nat))).setCell ⟨b5, 17, none⟩ (.int .i64 v.ep)).drew) := (yem (yem (yem HB2.out HQ5.out _ _) HQ5.out _ _) HQ5.out _ _).drew
 have hy3 : ((((w2.setCell ⟨b5, 15, none⟩ (.int .u64 (v.f : Nat))).setCell ⟨b5, 16, none⟩ (.int .u64 (v.t : Nat))).setCell ⟨b5, 17, none⟩ (.int .i64 v.ep)).drew).heap[b4]? = some (.cells ya5 49) := (hb3.block _ hz1).trans ((HB1.out.block _ (yca HY0.out)).trans HY0.out)
 have hb4 := acc HB0.out (acc HB1.out hb3)
 obtain ⟨w3, hw3⟩ : ∃ w3, (((w2.setCell ⟨b5, 15, none⟩ (.int .u64 (v.f : Nat))).setCell ⟨b5, 16, none⟩ (.int .u64 (v.t : Nat))).setCell ⟨b5, 17, none⟩ (.int .i64 v.ep)).drew = w3 := ⟨_, rfl⟩
 rw [hw3] at hx3 hb3 hy3 hb4
 rw [hw3]
 clear hw3 x15 x16 x17 g15 g16 g17
 have hone := yfz ((LV.bare k v.me v.to_ v.id).arc v.f v.t v.ep)
 have hi3 : (Tryz.prog.info? 49).map (·.size) = some (yak ((LV.bare k v.me v.to_ v.id).arc v.f v.t v.ep)).size := yel
 have ho3 : ya5.size = (yak ((LV.bare k v.me v.to_ v.id).arc v.f v.t v.ep)).size := rfl
 go_wp2_with (first
  | (with_reducible (show wpList _ _ _ (⟨some 19, Op.load _ _, _, _, _, _⟩ :: _) _ _); go_must (refine wpList_load_row rfl 49 (.tmp 5) rfl b5 rfl 49 (yak ((LV.bare k v.me v.to_ v.id).arc v.f v.t v.ep)) (0, 0) _ hx3 Tryz.underlying49 rfl hi3 ?_))
  | (with_reducible (show wpList _ _ _ (⟨none, Op.store _ (Operand.tmp 4) _, _, _, _, _⟩ :: _) _ _); go_must (refine wpList_store_row rfl 49 (.tmp 4) (.tmp 19) rfl b4 (yak ((LV.bare k v.me v.to_ v.id).arc v.f v.t v.ep)) rfl rfl 49 ya5 hy3 hi3 ho3 hone ?_)))
 refine bodyPost_ret (ypl rfl _ _ b4 (yak ((LV.bare k v.me v.to_ v.id).arc v.f v.t v.ep)) rfl rfl (ygo _ hy3)) rfl ?_
 exact ⟨rfl, hb4.trans (yj9 _ HQ4.out)⟩
end Go.Proofs.YtnjodhglbapnlaaGreat
namespace Go.Proofs.YtnjodhglbapnlaaGreat
open Go.RowKit
section
variable {F : Fence} {n : Nat} {P : Program} {ops : Array Oper} {rest : List Oper} {o : Oper} {a : Act} {w : World} {K : Act → World → Prop} {Q : Exit → Act → World → Prop}
theorem yz8 (ty : TypeId) (x : Operand) (ho : o.op = .load ty x)
  (g : Nat) (hx : a.eval x = .pointer (some ⟨g, 0, none⟩)) (t : TypeId) (cs : Array Value) (fr : Nat × Nat) (d : TypeDesc) (hg : w.heap[g]? = some (.cells cs t fr))
  (hu : P.underlying ty = some d) (hd : (match d with | .struct _ | .array _ _ => true | _ => false) = true) (hi : (P.info? ty).map (·.size) = some cs.size)
  (h : K (a.put o.dst (.agg cs)) w) : o.wpIn F n P a w K Q := by
 refine ⟨by simp [Oper.about, ho], ?_⟩
 rw [Oper.semAt_plain F _ _ (by rw [ho]; intro c hc; cases hc)]
 simp only [execOp, ho, hx, Instr.loadAt, Instr.sureAddr, Sem.run_bind, Sem.run_pure, Result.andThen_ok, run_loadVar_row w g t ty cs fr d hg hu hd hi]
 exact h
theorem yz9 (ty : TypeId) (x y : Operand) (ho : o.op = .store ty x y)
  (g : Nat) (cells : Array Value) (hx : a.eval x = .pointer (some ⟨g, 0, none⟩)) (hy : a.eval y = .agg cells)
  (t : TypeId) (old : Array Value) (hg : w.heap[g]? = some (.cells old t (0, 0))) (hi : (P.info? ty).map (·.size) = some cells.size)
  (hold : old.size = cells.size) (h1 : cells.all (·.oneCell') = true)
  (h : K (a.put o.dst undef) (w.setRow g cells)) : o.wpIn F n P a w K Q := by
 refine ⟨by simp [Oper.about, ho], ?_⟩
 rw [Oper.semAt_plain F _ _ (by rw [ho]; intro c hc; cases hc)]
 simp only [execOp, ho, hx, hy, Instr.storeAt, Instr.sureAddr, Sem.run_bind, Sem.run_pure, Result.andThen_ok, run_storeVar_row w g t ty old cells hg hi hold h1]
 exact h
theorem yaaa (hgd : o.guard = none) (ty : TypeId) (x : Operand) (ho : o.op = .load ty x)
  (g : Nat) (hx : a.eval x = .pointer (some ⟨g, 0, none⟩)) (t : TypeId) (cs : Array Value) (fr : Nat × Nat) (d : TypeDesc) (hg : w.heap[g]? = some (.cells cs t fr))
  (hu : P.underlying ty = some d) (hd : (match d with | .struct _ | .array _ _ => true | _ => false) = true) (hi : (P.info? ty).map (·.size) = some cs.size)
  (h : wpListIn F n P ops Q rest (a.put o.dst (.agg cs)) w) : wpListIn F n P ops Q (o :: rest) a w :=
 wpListIn_plain hgd fun _ hK => yz8 ty x ho g hx t cs fr d hg hu hd hi (hK _ _ h)
theorem yaab (hgd : o.guard = none) (ty : TypeId) (x y : Operand) (ho : o.op = .store ty x y)
  (g : Nat) (cells : Array Value) (hx : a.eval x = .pointer (some ⟨g, 0, none⟩)) (hy : a.eval y = .agg cells)
  (t : TypeId) (old : Array Value) (hg : w.heap[g]? = some (.cells old t (0, 0))) (hi : (P.info? ty).map (·.size) = some cells.size)
  (hold : old.size = cells.size) (h1 : cells.all (·.oneCell') = true)
  (h : wpListIn F n P ops Q rest (a.put o.dst undef) (w.setRow g cells)) : wpListIn F n P ops Q (o :: rest) a w :=
 wpListIn_plain hgd fun _ hK => yz9 ty x y ho g cells hx hy t old hg hi hold h1 (hK _ _ h)
end
end Go.Proofs.YtnjodhglbapnlaaGreat
