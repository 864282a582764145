import Derived.Test.YtnjodhglbapnlaaGreatGg01
import Derived.Laws.AppendOwn
import Derived.Deep.RegionLaw
import Derived.Laws.OwnMore
import Derived.Laws.CopyRow
import Derived.Lib.AppendZerosOnto
import Derived.Lib.Overlaps
import Derived.Lib.SliceRun
set_option maxRecDepth 100000
set_option maxHeartbeats 16000000
namespace Go.Proofs.YtnjodhglbapnlaaGreat
open Go.RowKit
structure HO where
 nd : Int
 most : Int
 kept : Nat
 own : Nat → Option Int
 its : List Item
 g : GS
 k : Nat
def HO.new (nd most : Int) : HO := ⟨nd, min (max most 0) 200, 0, fun _ => none, [], G0, 0⟩
def HO.may (s : HO) (f t : Nat) (e : Int) : Prop := 0 ≤ e ∧ ∀ x, x < 18446744073709551616 → inB f t x = true → s.own x = none
def HO.take (s : HO) (f t : Nat) (e : Int) : HO := ⟨s.nd, s.most, s.kept, fun x => if inB f t x = true then some e else s.own x, s.its, s.g, s.k + 1⟩
def ydf (own : Nat → Option Int) (q : Nat → Prop) (e : Int) : Prop := (∀ x y, x < 18446744073709551616 → q x → own x = some y → y ≤ e) ∧ ∃ x, x < 18446744073709551616 ∧ q x ∧ own x = some e
structure TL where
 er : Int
 val : ByteArray
 its : List Item
 more : Bool
 nx : ByteArray
 nd : Int
abbrev TL.err (e : Int) : TL := ⟨e, ⟨#[]⟩, [], false, ⟨#[]⟩, 0⟩
structure AK where
 op : Int
 key : ByteArray
 val : ByteArray
 tt : ByteArray
 most : Int
def Upto (s : HO) (x stop : Nat) : Prop := x < stop ∧ stop ≤ 18446744073709551616 ∧ (∀ y, x ≤ y → y < stop → s.own y ≠ none ∧ s.g.frozen y = false) ∧ (stop < 18446744073709551616 → s.own stop = none ∨ s.g.frozen stop = true)
def yby (s : HO) (a : AK) (stop : Nat) : TL :=
 if a.tt.size ≠ 0 ∧ yad a.key a.tt = false then TL.err 0
 else
  let l := (yae s.its a.key a.tt).filter fun x => decide (adr x < stop)
  match l[a.most.toNat]? with
  | some y => ⟨0, ⟨#[]⟩, l.take a.most.toNat, true, y.1, 0⟩
  | none => if stop < 18446744073709551616 ∧ (a.tt.size = 0 ∨ yad (txt (yaz stop)) a.tt = true) then ⟨0, ⟨#[]⟩, l, true, txt (yaz stop), 0⟩ else ⟨0, ⟨#[]⟩, l, false, ⟨#[]⟩, 0⟩
def HO.bar (s : HO) (a : AK) : Option TL :=
 if a.op < 1 ∨ 4 < a.op ∨ (a.op = 4 ∧ (a.most < 0 ∨ 40 < a.most)) then some (TL.err 1)
 else if 16 < a.key.size ∨ (a.key.size = 0 ∧ a.op ≠ 4) then some (TL.err 3)
 else if s.own (yac a.key) = none then some ⟨8, ⟨#[]⟩, [], false, ⟨#[]⟩, (yao s.g.l (yac a.key)).getD (-1)⟩
 else if s.g.frozen (yac a.key) = true then some (TL.err 7)
 else none
def HO.putE (s : HO) (k v : ByteArray) : Int := if yas v ≠ 0 then yas v else if hasN s.its k = false ∧ s.most ≤ (s.its.length : Int) + s.kept then 5 else 0
def HO.with (s : HO) (l : List Item) : HO := ⟨s.nd, s.most, s.kept, s.own, l, s.g, s.k⟩
def Did (s : HO) (a : AK) (t : TL) (s' : HO) : Prop :=
 match s.bar a with
 | some b => t = b ∧ s' = s
 | none =>
  (a.op = 1 ∧ t = (if hasN s.its a.key = true then ⟨0, getI s.its a.key, [], false, ⟨#[]⟩, 0⟩ else TL.err 6) ∧ s' = s) ∨
  (a.op = 2 ∧ t = TL.err (s.putE a.key a.val) ∧ s' = if s.putE a.key a.val = 0 then s.with (putN s.its a.key a.val) else s) ∨
  (a.op = 3 ∧ t = TL.err (if hasN s.its a.key = true then 0 else 6) ∧ s' = s.with (delN s.its a.key)) ∨
  (a.op = 4 ∧ (∃ stop, Upto s (yac a.key) stop ∧ t = yby s a stop) ∧ s' = s)
def HO.lose (s : HO) (to_ : Int) : HO := ⟨s.nd, s.most, s.kept, fun x => if inB s.g.f s.g.t x = true then none else s.own x, yjh s.its s.g.f s.g.t, ⟨false, 0, 0, s.g.l ++ [⟨s.g.f, s.g.t, to_, 0⟩], s.g.k⟩, s.k + 1⟩
theorem yqm {x k v : Nat} {out : List UInt8} (h8 : k ≤ 8) (hne : v ≠ 0) (h : v = x * 256 ^ k % 256 ^ 8 ∧ out ++ ybl (ybk (8 - k) x) = yaz x) :
  k < 8 ∧ v * 256 % 256 ^ 8 = x * 256 ^ (k + 1) % 256 ^ 8 ∧ (out ++ [UInt8.ofNat (v / 256 ^ 7)]) ++ ybl (ybk (8 - (k + 1)) x) = yaz x := by
 obtain ⟨hv, ho⟩ := h
 have hk : k < 8 := by
  rcases Nat.lt_or_ge k 8 with h | h
  ·exact h
  ·obtain rfl : k = 8 := by omega
   rw [Nat.mul_mod_left] at hv
   exact absurd hv hne
 obtain ⟨m, hm⟩ : ∃ m, k + m = 7 := ⟨7 - k, by omega⟩
 have e1 : 8 - k = m + 1 := by omega
 have e2 : 8 - (k + 1) = m := by omega
 have e3 : (256 : Nat) ^ 8 = 256 ^ (m + 1) * 256 ^ k := by rw [← Nat.pow_add]; congr 1; omega
 have e4 : (256 : Nat) ^ 7 = 256 ^ m * 256 ^ k := by rw [← Nat.pow_add]; congr 1; omega
 have hp : 0 < (256 : Nat) ^ k := Nat.pow_pos (by omega)
 have hv' : v = x % 256 ^ (m + 1) * 256 ^ k := by rw [hv, e3, Nat.mul_mod_mul_right]
 refine ⟨hk, ?_, ?_⟩
 ·rw [hv, Nat.mod_mul_mod, Nat.mul_assoc, ← Nat.pow_succ]
 ·rw [e1, yqd m x (fun e => hne (by rw [hv', e, Nat.zero_mul]))] at ho
  rw [e2, ← ho, List.append_assoc]
  congr 2
  have e5 : v / 256 ^ 7 = x / 256 ^ m % 256 := by
   rw [hv', e4, Nat.mul_div_mul_right _ _ hp, Nat.pow_succ, Nat.mod_mul_right_div_self]
  rw [e5]
  show UInt8.ofNat (x / 256 ^ m % 256) :: _ = _
  congr 1
  apply UInt8.toNat_inj.1
  simp
theorem yqn {x k : Nat} {out : List UInt8} (h8 : k ≤ 8) (h : 0 = x * 256 ^ k % 256 ^ 8 ∧ out ++ ybl (ybk (8 - k) x) = yaz x) : out = yaz x := by
 obtain ⟨hv, ho⟩ := h
 obtain ⟨m, hm⟩ : ∃ m, m + k = 8 := ⟨8 - k, by omega⟩
 have e1 : 8 - k = m := by omega
 have e3 : (256 : Nat) ^ 8 = 256 ^ m * 256 ^ k := by rw [← Nat.pow_add]; congr 1; omega
 have hp : 0 < (256 : Nat) ^ k := Nat.pow_pos (by omega)
 rw [e3, Nat.mul_mod_mul_right] at hv
 have h0 : x % 256 ^ m = 0 := by
  rcases Nat.mul_eq_zero.1 hv.symm with h | h
  ·exact h
  ·omega
 rw [e1, yll m x h0, List.append_nil] at ho
 exact ho
theorem yqo {v : Nat} (h : v < 256) : Value.int .u8 (v : Int) = yf6 (UInt8.ofNat v) := by
 unfold yf6
 rw [show (UInt8.ofNat v).toNat = v by simp; omega]
theorem yji (x : Nat) (w : World) (hx : x < 18446744073709551616) :
  Calls Tryz.prog 140 #[.int .u64 x] w fun e w' => e = .returned (.string (txt (yaz x))) ∧ Below w.heap.size w w' := by
 obtain ⟨i0, hi, hz0, hz1, hz2⟩ := yqf
 go_enter Tryz.func140, Tryz.ntmps140
 go_wp2
 go_loopg [0, 3] 9 (fun g s0 s3 wx => ∃ (k v : Nat) (out : List UInt8), k + g = 9 ∧ k ≤ 8 ∧ s0 = .int .u64 (v : Nat) ∧ Hid (v = x * 256 ^ k % 256 ^ 8 ∧ out ++ ybl (ybk (8 - k) x) = yaz x) ∧ Hid (out.length = k) ∧ wx.ownsRow w.heap.size 5 1 s3 k (out.map yf6) ∧ Below w.heap.size w wx)
 case atStart => exact ⟨0, x, [], by omega, by omega, rfl, ⟨by rw [Nat.pow_zero, Nat.mul_one, Nat.mod_eq_of_lt hx], rfl⟩, rfl, World.ownsRow_nil _ _ _ _, Below.refl _ _⟩
 case round =>
  obtain ⟨k, v, out, hkg, h8, rfl, HI, HL, hown, hbel⟩ := hrel
  have hv : v < 18446744073709551616 := by have := HI.out.1; omega
  by_cases h0 : v = 0
  ·subst h0
   have ho := yqn h8 HI.out
   subst ho
   obtain ⟨A, c, rfl⟩ := yav hown
   have hstr := yqe (P := Tryz.prog) 236 9 hown Tryz.underlying236 Tryz.underlying5 Tryz.underlying9
   have HB := Lib.hid hbel
   clear hbel hown
   go_wp2
   go_ret
   exact ⟨rfl, HB.out⟩
  ·have b0 : ((v : Int) != 0) = true := by rw [bne_iff_ne]; omega
   obtain ⟨hk, hv2, hout⟩ := yqm h8 h0 HI.out
   have HV := Lib.hid hv2
   have HO := Lib.hid hout
   have HK := Lib.hid hk
   clear h0 hv2 hout hk
   go_wp2_with (at_builtin; go_must (refine wpList_append_own _ rfl _ _ 236 rfl w.heap.size 5 i0 (.int .u8 0) 1 1 Tryz.underlying236 hi hz0 hz1 hz2 rfl (by decide) _ _ _ rfl (hown.alloc _) ⟨wr.heap.size, 0, none⟩ 1 1 [.int .u8 ((v : Int) / 72057594037927936)] rfl rfl (cell_one_new _ _ _) (fun x hx => by simp at hx; subst hx; rfl) (by unfold maxLen; omega) (by omega) (by have := hbel.size; simp; omega) ?_); intro v' w1 hown' hgrow hnil)
   go_roundg (gk - 1)
   case measure => omega
   case rel =>
    have hlt : v / 72057594037927936 < 256 := by omega
    refine ⟨k + 1, v * 256 % 256 ^ 8, out ++ [UInt8.ofNat (v / 256 ^ 7)], by have := HK.out; omega, HK.out, ?_, ⟨HV.out, HO.out⟩, by show _ = _; rw [List.length_append, HL.out]; rfl, ?_, (own_below (hown.alloc _) (hbel.alloc hbel.size _) (by have := hbel.size; simp; omega) hgrow)⟩
    ·rw [IntKind.wrap_u64]; congr 1
    ·rw [List.map_append, List.map_singleton, ← yqo (v := v / 256 ^ 7) hlt]; exact hown'
theorem yqp (s : ByteArray) (w : World) (_hs : s.size ≤ maxLen) :
  Calls Tryz.prog 63 #[.string s] w fun e w' => e = .returned (.int .u64 (yac s : Nat)) ∧ w = w' := by
 unfold maxLen at _hs
 go_enter Tryz.func63, Tryz.ntmps63
 go_wp2
 go_loopg [3, 4] 9 (fun g s3 s4 wx => ∃ (k v : Nat), k + g = 9 ∧ k ≤ 8 ∧ s4 = .int .i64 k ∧ s3 = .int .u64 (v : Nat) ∧ Hid (v = accN s.data.toList k) ∧ w = wx)
 case atStart => exact ⟨0, 0, by omega, by omega, rfl, rfl, rfl, rfl⟩
 case round =>
  obtain ⟨k, v, hkg, h8, rfl, rfl, HV, rfl⟩ := hrel
  by_cases h2 : k < 8
  ·have b2 : decide ((k : Int) < 8) = true := by simp; omega
   have hv : v < 72057594037927936 := by
    have h1 := yf5 s.data.toList k
    have h3 : (256 : Nat) ^ k ≤ 256 ^ 7 := Nat.pow_le_pow_right (by omega) (by omega)
    have := HV.out
    omega
   by_cases h1 : k < s.size
   ·have hb : s[k].toNat < 256 := s[k].toNat_lt
    have HS : Hid (v * 256 + s[k].toNat = accN s.data.toList (k + 1)) := by show _ = _; rw [accN, HV.out, yk7 (by rw [yhg]; exact h1)]; rfl
    go_wp2
    go_roundg (gk - 1)
    case measure => omega
    case rel => exact ⟨k + 1, _, by omega, by omega, by go_num, by go_num, HS.out, rfl⟩
   ·have HS : Hid (v * 256 = accN s.data.toList (k + 1)) := by show _ = _; rw [accN, HV.out, yk8 (by rw [yhg]; omega), Nat.add_zero]
    go_wp2
    go_roundg (gk - 1)
    case measure => omega
    case rel => exact ⟨k + 1, _, by omega, by omega, by go_num, by go_num, HS.out, rfl⟩
  ·have b2 : decide ((k : Int) < 8) = false := by simp; omega
   have e : v = yac s := by
    obtain rfl : k = 8 := by omega
    exact HV.out
   rw [e]
   go_wp2
   go_ret
   exact ⟨rfl, rfl⟩
def yqq (v : Int) : Bool := decide (0 ≤ v) && decide (v ≤ 65535)
def numT (v : Int) : ByteArray := if yqq v then txt (ybk 2 v.toNat) else ByteArray.empty
def yqr (s : ByteArray) : Bool := decide (s.size ≤ 255)
def yqs (s : ByteArray) : ByteArray := if yqr s then txt (ybk 1 s.size) ++ s else ByteArray.empty
def numO (o : Option ByteArray) (n : Nat) : Nat := match o with
 | some s => if n ≤ s.size then accN s.data.toList n else 0
 | none => 0
def yhr (o : Option ByteArray) (n : Nat) : Option ByteArray := match o with
 | some s => if n ≤ s.size then some (s.extract n s.size) else none
 | none => none
def yqt (o : Option ByteArray) : Option ByteArray := yhr (yhr o 1) (numO o 1)
def aN : ByteArray := numT 258
def aT : ByteArray := yqs ⟨#[97, 98]⟩
def aX : ByteArray := txt (ybk 8 7)
def a0 : Option ByteArray := some (aN ++ aT ++ aX)
def a1 : Option ByteArray := yhr a0 2
def pa2 : Option ByteArray := yqt a1
def a3 : Option ByteArray := yhr pa2 8
structure FV where
 n : Int
 s : ByteArray
 l : List Item
structure LV where
 k : Int
 f : Int
 t : Int
 i : Int
 op : Int
 key : ByteArray
 val : ByteArray
 kto : ByteArray
 most : Int
 er : Int
 tv : ByteArray
 ti : List Item
 more : Bool
 nx : ByteArray
 tn : Int
 af : Nat
 au : Nat
 ep : Int
 li : List Item
 n : Int
 nd : Int
def nv (n : Int) : FV := ⟨n, ByteArray.empty, []⟩
def sv (s : ByteArray) : FV := ⟨0, s, []⟩
def iv (l : List Item) : FV := ⟨0, ByteArray.empty, l⟩
def LV.xs (l : LV) : List FV := [nv l.k, nv l.f, nv l.t, nv l.i, nv l.ep, nv l.n, nv l.nd, nv l.af, nv l.au, iv l.li, nv l.op, sv l.key, sv l.val, sv l.kto, nv l.most, nv l.er, sv l.tv, iv l.ti, nv (if l.more then 1 else 0), sv l.nx, nv l.tn]
def LV.of (xs : List FV) : LV := {k := (xs.getD 0 (nv 0)).n, f := (xs.getD 1 (nv 0)).n, t := (xs.getD 2 (nv 0)).n, i := (xs.getD 3 (nv 0)).n, op := (xs.getD 10 (nv 0)).n, key := (xs.getD 11 (nv 0)).s, val := (xs.getD 12 (nv 0)).s, kto := (xs.getD 13 (nv 0)).s, most := (xs.getD 14 (nv 0)).n, er := (xs.getD 15 (nv 0)).n, tv := (xs.getD 16 (nv 0)).s, ti := (xs.getD 17 (nv 0)).l, more := (xs.getD 18 (nv 0)).n == 1, nx := (xs.getD 19 (nv 0)).s, tn := (xs.getD 20 (nv 0)).n, af := (xs.getD 7 (nv 0)).n.toNat, au := (xs.getD 8 (nv 0)).n.toNat, ep := (xs.getD 4 (nv 0)).n, li := (xs.getD 9 (nv 0)).l, n := (xs.getD 5 (nv 0)).n, nd := (xs.getD 6 (nv 0)).n}
abbrev LV.cells (l : LV) (S1 S2 : Value) : Array Value := #[.int .i64 l.k, .int .i64 l.f, .int .i64 l.t, .int .i64 l.i, .int .i64 l.op, .string l.key, .string l.val, .string l.kto, .int .i64 l.most, .int .i64 l.er, .string l.tv, S1, .bool l.more, .string l.nx, .int .i64 l.tn, .int .u64 (l.af : Nat), .int .u64 (l.au : Nat), .int .i64 l.ep, S2, .int .i64 l.n, .int .i64 l.nd]
def i64B (v : Int) : Prop := -9223372036854775808 ≤ v ∧ v ≤ 9223372036854775807
def yhs (l : List Item) : Prop := l.length ≤ 9223372036854775807 ∧ ∀ x ∈ l, x.1.size ≤ 9223372036854775807 ∧ x.2.size ≤ 9223372036854775807
structure LV.Fine (l : LV) : Prop where
 kB : i64B l.k
 fB : i64B l.f
 tB : i64B l.t
 iB : i64B l.i
 opB : i64B l.op
 keyB : l.key.size ≤ 9223372036854775807
 valB : l.val.size ≤ 9223372036854775807
 ktoB : l.kto.size ≤ 9223372036854775807
 mostB : i64B l.most
 erB : i64B l.er
 tvB : l.tv.size ≤ 9223372036854775807
 tiB : yhs l.ti
 nxB : l.nx.size ≤ 9223372036854775807
 tnB : i64B l.tn
 afB : l.af < 18446744073709551616
 auB : l.au < 18446744073709551616
 epB : i64B l.ep
 liB : yhs l.li
 nB : i64B l.n
 ndB : i64B l.nd
def yht (W : World) (A : Option Addr) (zs : List Item) : Prop :=
 ∃ b off, ∀ i (h : i < zs.length), A = some ⟨b, off, none⟩ ∧ b < W.heap.size ∧ W.cell? ⟨b, off + i * 2, none⟩ = some (.string (zs[i]).1) ∧ W.cell? ⟨b, off + i * 2 + 1, none⟩ = some (.string (zs[i]).2)
theorem yht.below {W W1 : World} {A : Option Addr} {zs : List Item} (h : yht W A zs) (hb : Below W.heap.size W W1) : yht W1 A zs := by
 obtain ⟨b, off, h⟩ := h
 refine ⟨b, off, fun i hi => ?_⟩
 obtain ⟨h1, h2, h3, h4⟩ := h i hi
 exact ⟨h1, Nat.lt_of_lt_of_le h2 hb.size, (hb.cell (p := ⟨b, off + i * 2, none⟩) h2).trans h3, (hb.cell (p := ⟨b, off + i * 2 + 1, none⟩) h2).trans h4⟩
def SlAt (W : World) (S : Value) (zs : List Item) : Prop := ∃ A c, S = .slice A zs.length c ∧ zs.length ≤ c ∧ c ≤ maxLen ∧ yht W A zs
theorem SlAt.below {W W1 : World} {S : Value} {zs : List Item} (h : SlAt W S zs) (hb : Below W.heap.size W W1) : SlAt W1 S zs := by
 obtain ⟨A, c, h1, h3, h4, h2⟩ := h
 exact ⟨A, c, h1, h3, h4, h2.below hb⟩
theorem SlAt.nil (W : World) : SlAt W (.slice none 0 0) [] := ⟨none, 0, rfl, Nat.le_refl _, by unfold maxLen; omega, 0, 0, fun i h => by simp at h⟩
structure GV where
 me : Int
 to_ : Int
 id : Int
 f : Nat
 t : Nat
 ep : Int
 st : Nat
 its : List Item
 ch : Nat
 h : Nat
abbrev LV.bare (k f t i : Int) : LV := ⟨k, f, t, i, 0, ⟨#[]⟩, ⟨#[]⟩, ⟨#[]⟩, 0, 0, ⟨#[]⟩, [], false, ⟨#[]⟩, 0, 0, 0, 0, [], 0, 0⟩
def GV.offer (v : GV) : LV := ⟨10, v.me, v.to_, v.id, 0, ⟨#[]⟩, ⟨#[]⟩, ⟨#[]⟩, 0, 0, ⟨#[]⟩, [], false, ⟨#[]⟩, 0, v.f, v.t, v.ep, [], (v.its.length : Nat), 0⟩
def GV.commit (v : GV) : LV := ⟨14, v.me, v.to_, v.id, 0, ⟨#[]⟩, ⟨#[]⟩, ⟨#[]⟩, 0, 0, ⟨#[]⟩, [], false, ⟨#[]⟩, 0, v.f, v.t, v.ep, [], 0, 0⟩
def GV.chunk (v : GV) (n : Nat) (l : List Item) : LV := ⟨12, v.me, v.to_, v.id, 0, ⟨#[]⟩, ⟨#[]⟩, ⟨#[]⟩, 0, 0, ⟨#[]⟩, [], false, ⟨#[]⟩, 0, 0, 0, 0, l, (n : Nat), 0⟩
def GV.drop (v : GV) : LV := LV.bare 16 v.me v.to_ v.id
def GV.at_ (v : GV) (n : Nat) : GV := ⟨v.me, v.to_, v.id, v.f, v.t, v.ep, n, v.its, v.ch, v.h⟩
def GV.sent (v : GV) (n c : Nat) : GV := ⟨v.me, v.to_, v.id, v.f, v.t, v.ep, n, v.its, c, v.h⟩
def GV.next (v : GV) : GV × List LV := if v.its.length ≤ v.ch * 4 then (v.at_ 3, [v.commit]) else (v.sent 2 (v.ch + 1), [v.chunk (v.ch + 1) ((v.its.drop (v.ch * 4)).take 4)])
def GV.got (v : GV) (x : LV) : GV × List LV :=
 if x.f ≠ v.to_ ∨ x.i ≠ v.id then (v, [])
 else if v.st = 1 ∧ x.k = 11 ∧ x.n = 1 then v.next
 else if v.st = 1 ∧ x.k = 11 ∧ x.n = 0 then (v.at_ 5, [])
 else if v.st = 2 ∧ x.k = 13 ∧ x.n = (v.ch : Nat) then v.next
 else if v.st = 3 ∧ x.k = 15 then (v.at_ 4, [])
 else (v, [])
def GV.over (v : GV) (x : LV) : Bool := if x.f ≠ v.to_ ∨ x.i ≠ v.id then false else decide (4 ≤ (v.got x).1.st)
def HO.thawed (s : HO) : HO := ⟨s.nd, s.most, s.kept, s.own, s.its, s.g.thaw, s.k⟩
def HO.froze (s : HO) (f t : Nat) : HO := ⟨s.nd, s.most, s.kept, s.own, s.its, ⟨true, f, t, s.g.l, s.g.k⟩, s.k⟩
def GV.did (v : GV) (x : LV) (s : HO) : HO :=
 if x.f ≠ v.to_ ∨ x.i ≠ v.id then s
 else if v.st = 1 ∧ x.k = 11 ∧ x.n = 0 then s.thawed
 else if v.st = 3 ∧ x.k = 15 then s.lose v.to_
 else s
def GV.stop (v : GV) : GV × List LV := if v.st = 1 ∨ v.st = 2 then (v.at_ 5, [v.drop]) else (v, [])
theorem GV.over_eq {v : GV} {x : LV} (hf : x.f = v.to_) (hi : x.i = v.id) : v.over x = decide (4 ≤ (v.got x).1.st) := by
 unfold GV.over
 rw [if_neg]
 rintro (h | h)
 ·exact h hf
 ·exact h hi
def Kept (P : List Nat) (w w' : World) : Prop := ∃ G, Touch G w w' ∧ ∀ q ∈ P, q ∉ G
theorem Kept.below {P : List Nat} {w w' : World} (h : Below w.heap.size w w') : Kept P w w' := ⟨[], Touch.ofBelow h, by simp⟩
theorem Kept.block {P : List Nat} {a b : World} (h : Kept P a b) {q : Nat} (hP : q ∈ P) (hq : q < a.heap.size) : b.heap[q]? = a.heap[q]? := by
 obtain ⟨G, t, n⟩ := h
 exact t.block q hq (n q hP)
theorem Kept.cell {P : List Nat} {a b : World} (h : Kept P a b) {p : Addr} (hP : p.block ∈ P) (hq : p.block < a.heap.size) : b.cell? p = a.cell? p := World.cell?_of_block (w := a) (h.block hP hq)
theorem Kept.trans {P : List Nat} {a b c : World} (h : Kept P a b) (k : Kept P b c) : Kept P a c := by
 obtain ⟨G, t, n⟩ := h
 obtain ⟨H, u, m⟩ := k
 exact ⟨G ++ H, (t.mono (fun x hx => List.mem_append_left _ hx)).trans u (fun x hx => .inl (List.mem_append_right _ hx)), fun q hq z => (List.mem_append.1 z).elim (n q hq) (m q hq)⟩
theorem Kept.less {P Q : List Nat} {a b : World} (h : Kept P a b) (hQ : ∀ q ∈ Q, q ∈ P) : Kept Q a b := by
 obtain ⟨G, t, n⟩ := h
 exact ⟨G, t, fun q hq => n q (hQ q hq)⟩
structure AO where
 f : Nat
 t : Nat
 n : Int
 e : Int
def AO.may (p : AO) : Prop := 0 ≤ p.n ∧ p.n ≤ 255 ∧ 0 ≤ p.e
def AO.val (p : AO) : Int × Int := (p.n, p.e)
abbrev AO.has (p : AO) (x : Nat) : Bool := inB p.f p.t x
def kn (a : List AO) (x : Nat) : Option (Int × Int) := (a.find? fun p => p.has x).map AO.val
structure Arcs (a : List AO) : Prop where
 lt : ∀ p ∈ a, p.f < 18446744073709551616 ∧ p.t < 18446744073709551616
 rng : ∀ p ∈ a, 0 ≤ p.n ∧ p.n ≤ 255 ∧ 0 ≤ p.e ∧ p.e ≤ 9223372036854775807
 up : a.Pairwise fun p q => p.f < q.f
 whole : ∀ p ∈ a, p.f = p.t → p.f = 0
 apart : a.Pairwise fun p q => yat p.f p.t q.f q.t = true
 max : ∀ p ∈ a, ∀ q ∈ a, p.f ≠ p.t → p.t = q.f → p.val ≠ q.val
theorem Arcs.nil : Arcs [] := ⟨by simp, by simp, List.Pairwise.nil, by simp, List.Pairwise.nil, by simp⟩
theorem ylv {α : Type} {R : α → α → Prop} (hs : ∀ a b, R a b → R b a) : ∀ {l : List α}, l.Pairwise R → ∀ {a b : α}, a ∈ l → b ∈ l → a = b ∨ R a b
 | [], _, _, _, h, _ => by cases h
 | x :: l, h, a, b, ha, hb => by
  obtain ⟨h1, h2⟩ := List.pairwise_cons.1 h
  rcases List.mem_cons.1 ha with rfl | ha
  ·rcases List.mem_cons.1 hb with rfl | hb
   ·exact .inl rfl
   ·exact .inr (h1 b hb)
  ·rcases List.mem_cons.1 hb with e | hb
   ·exact .inr (hs _ _ (by rw [e]; exact h1 a ha))
   ·exact ylv hs h2 ha hb
section
variable {a : List AO}
theorem Arcs.one (h : Arcs a) {p q : AO} (hp : p ∈ a) (hq : q ∈ a) {x : Nat} (hx : x < 18446744073709551616) (h1 : p.has x = true) (h2 : q.has x = true) : p = q := by
 rcases ylv (R := fun p q => yat p.f p.t q.f q.t = true) (fun _ _ z => by rw [yf1]; exact z) h.apart hp hq with z | z
 ·exact z
 ·have := yf2 (h.lt p hp).1 (h.lt p hp).2 (h.lt q hq).1 (h.lt q hq).2 hx z h1
  have h2' : inB q.f q.t x = true := h2
  rw [this] at h2'
  cases h2'
theorem Arcs.first (h : Arcs a) {p : AO} (hp : p ∈ a) : p.has p.f = true := ydo _ _ (h.lt p hp).1 (h.lt p hp).2
theorem Arcs.known (h : Arcs a) {p : AO} (hp : p ∈ a) {x : Nat} (hx : x < 18446744073709551616) (h1 : p.has x = true) : kn a x = some p.val := by
 unfold Go.Proofs.YtnjodhglbapnlaaGreat.kn
 cases hf : a.find? fun p => p.has x with
 | none => exact absurd h1 (by simpa using List.find?_eq_none.1 hf p hp)
 | some q =>
  have hq := List.mem_of_find?_eq_some hf
  have hx2 := List.find?_some (p := fun p => AO.has p x) hf
  rw [h.one hp hq hx h1 hx2]
  rfl
theorem ylw {a : List AO} {x : Nat} {v : Int × Int} (hk : kn a x = some v) : ∃ p ∈ a, p.has x = true ∧ p.val = v := by
 unfold kn at hk
 obtain ⟨p, hp, rfl⟩ := Option.map_eq_some_iff.1 hk
 exact ⟨p, List.mem_of_find?_eq_some hp, List.find?_some (p := fun p => AO.has p x) hp, rfl⟩
end
def yax (w : World) (v v' : Value) : Prop := ∀ q, v'.ownBlock = some q → v.ownBlock = some q ∨ w.heap.size ≤ q
theorem ylx {P : Program} (w : World) (base : Nat) (t ty e : TypeId) (i : TypeInfo) (z : Value) (size bytes : Nat) (ht : P.underlying t = some (.slice e)) (hi : P.info? e = some i) (hz : i.zero = some z)
  (hsize : i.size = size) (hby : i.bytes = bytes) (hzs : z.cells.size = size) (hsz : 0 < size)
  (v : Value) (n : Nat) (xs : List Value) (hown : w.ownsRow base e size v n xs)
  (a : Addr) (m c : Nat) (news : List Value) (hl : news.length = m * size) (hnews : ∀ j u, news[j]? = some u → w.cell? (a.add j) = some u) (h1 : ∀ u ∈ news, u.oneCell' = true)
  (h63 : n + m ≤ maxLen) (hbytes : (n + m) * bytes ≤ 140737488355328) (hbase : base ≤ w.heap.size) :
  ∃ v' w', (Builtin.append_ #[t, t] ty #[v, .slice (some a) m c]).run P w = .ok v' w' ∧ w'.ownsRow base e size v' (n + m) (xs ++ news) ∧ w.grownBy w' v.ownBlock ∧
   (v' = .slice none 0 0 ↔ v = .slice none 0 0 ∧ m = 0) ∧ w'.ownsRow base e size v n xs ∧ yax w v v' := by
 obtain ⟨v', w', hr, ho, hg, hnil⟩ := run_append_own (P := P) w base t ty e i z size bytes ht hi hz hsize hby hzs hsz v n xs hown a m c news hl hnews h1 h63 hbytes hbase
 refine ⟨v', w', hr, ho, hg, hnil, ?_⟩
 have hsmall : n + m ≤ 9223372036854775807 := by simp only [maxLen] at h63; omega
 subst hsize hby
 rcases hown.2 with ⟨rfl, rfl⟩ | ⟨g, cap, cur, rfl, hbg, hgg, hnc, hcm, hcs, htake⟩
 ·have hx : xs = [] := List.eq_nil_of_length_eq_zero (by simpa using hown.1)
  subst hx
  refine ⟨World.ownsRow_nil _ _ _ _, fun q hq => ?_⟩
  by_cases hm : m = 0
  ·rw [hnil.2 ⟨rfl, hm⟩] at hq; cases hq
  ·have hr2 := run_append_nil (P := P) w t ty e i z ht hi hz a m c news hl hnews (by omega) (by omega) (by have hb := hbytes; simp only [Nat.zero_add] at hb; omega)
   rw [hr2] at hr
   injection hr with e1 e2
   subst e1
   injection hq with hq
   exact .inr (by have h9 : w.heap.size = q := hq; omega)
 ·by_cases hroom : n + m ≤ cap
  ·have hfit : n * i.size + news.length ≤ cur.size := by rw [hl, hcs, ← Nat.add_mul]; exact Nat.mul_le_mul_right _ hroom
   have hr2 := run_append_room (P := P) w t ty e i ht hi g n cap cur hgg a m c news hl hnews h1 hroom hfit
   rw [hr2] at hr
   injection hr with e1 e2
   subst e1
   refine ⟨?_, fun q hq => .inl hq⟩
   rcases ho.2 with ⟨h0, _⟩ | ⟨g', cap', cur', h0, hb', hg', hn', hm', hs', ht'⟩
   ·cases h0
   ·injection h0 with k1 k2 k3
    injection k1 with k1
    injection k1 with k1
    subst k1 k3
    refine ⟨hown.1, .inr ⟨g, cap, cur', rfl, hbg, hg', hnc, hcm, hs', ?_⟩⟩
    have h2 : n * i.size ≤ (n + m) * i.size := Nat.mul_le_mul_right _ (by omega)
    have h3 := congrArg (List.take (n * i.size)) ht'
    rw [List.take_take, Nat.min_eq_left h2, ← hown.1, List.take_left] at h3
    rw [← hown.1]
    exact h3
  ·have holds : ∀ j u, xs[j]? = some u → w.cell? ((⟨g, 0, none⟩ : Addr).add j) = some u := hown.cells (g := g) rfl
   have hr2 := run_append_grow (P := P) w t ty e i z ht hi hz ⟨g, 0, none⟩ n cap xs hown.1 holds a m c news hl hnews (by omega) (by omega) (growslice_fits (by omega) hbytes)
   rw [hr2] at hr
   injection hr with e1 e2
   subst e1 e2
   refine ⟨?_, fun q hq => ?_⟩
   ·refine ⟨hown.1, .inr ⟨g, cap, cur, rfl, hbg, ?_, hnc, hcm, hcs, htake⟩⟩
    have hlt : g < w.heap.size := (hown.lt g rfl).2
    rw [Below.heap_alloc w.drew _ g hlt]
    exact hgg
   ·injection hq with hq
    exact .inr (by have h9 : w.heap.size = q := hq; omega)
theorem yqu {P : Program} {w : World} {o : Oper} {a : Act} {K : Act → World → Prop} {Q : Exit → Act → World → Prop} (s x : Operand) (t : TypeId)
  (ho : o.op = .call { callee := .builtin .append, args := #[s, x], argTypes := #[t, t] })
  (base : Nat) (e : TypeId) (i : TypeInfo) (z : Value) (size bytes : Nat) (ht : P.underlying t = some (.slice e)) (hi : P.info? e = some i) (hz : i.zero = some z)
  (hsize : i.size = size) (hby : i.bytes = bytes) (hzs : z.cells.size = size) (hsz : 0 < size)
  (v : Value) (n : Nat) (xs : List Value) (hs : a.eval s = v) (hown : w.ownsRow base e size v n xs)
  (ad : Addr) (m c : Nat) (news : List Value) (hx : a.eval x = .slice (some ad) m c) (hl : news.length = m * size) (hnews : ∀ j u, news[j]? = some u → w.cell? (ad.add j) = some u) (h1 : ∀ u ∈ news, u.oneCell' = true)
  (h63 : n + m ≤ maxLen) (hbytes : (n + m) * bytes ≤ 140737488355328) (hbase : base ≤ w.heap.size)
  (h : ∀ v' w', w'.ownsRow base e size v' (n + m) (xs ++ news) → w.grownBy w' v.ownBlock → (v' = .slice none 0 0 ↔ v = .slice none 0 0 ∧ m = 0) → w'.ownsRow base e size v n xs → yax w v v' → K (a.put o.dst v') w') : o.wp P a w K Q := by
 obtain ⟨v', w', hr, h2, h3, h4, h5, h6⟩ := ylx (P := P) w base t o.type e i z size bytes ht hi hz hsize hby hzs hsz v n xs hown ad m c news hl hnews h1 h63 hbytes hbase
 unfold Oper.wp execOp
 simp only [ho, resolve, invoke, builtin, Sem.run_bind, Sem.run_pure, Result.andThen_ok, List.map_toArray, List.map_cons, List.map_nil, hs, hx, hr]
 exact h v' w' h2 h3 h4 h5 h6
theorem yhu {P : Program} {w : World} {ops : Array Oper} {rest : List Oper} {o : Oper} {a : Act} {Q : Exit → Act → World → Prop} (hgd : o.guard = none) (s x : Operand) (t : TypeId)
  (ho : o.op = .call { callee := .builtin .append, args := #[s, x], argTypes := #[t, t] })
  (base : Nat) (e : TypeId) (i : TypeInfo) (z : Value) (size bytes : Nat) (ht : P.underlying t = some (.slice e)) (hi : P.info? e = some i) (hz : i.zero = some z)
  (hsize : i.size = size) (hby : i.bytes = bytes) (hzs : z.cells.size = size) (hsz : 0 < size)
  (v : Value) (n : Nat) (xs : List Value) (hs : a.eval s = v) (hown : w.ownsRow base e size v n xs)
  (ad : Addr) (m c : Nat) (news : List Value) (hx : a.eval x = .slice (some ad) m c) (hl : news.length = m * size) (hnews : ∀ j u, news[j]? = some u → w.cell? (ad.add j) = some u) (h1 : ∀ u ∈ news, u.oneCell' = true)
  (h63 : n + m ≤ maxLen) (hbytes : (n + m) * bytes ≤ 140737488355328) (hbase : base ≤ w.heap.size)
  (h : ∀ v' w', w'.ownsRow base e size v' (n + m) (xs ++ news) → w.grownBy w' v.ownBlock → (v' = .slice none 0 0 ↔ v = .slice none 0 0 ∧ m = 0) → w'.ownsRow base e size v n xs → yax w v v' → wpList P ops Q rest (a.put o.dst v') w') : wpList P ops Q (o :: rest) a w :=
 wpList_plain hgd fun _ hK => yqu s x t ho base e i z size bytes ht hi hz hsize hby hzs hsz v n xs hs hown ad m c news hx hl hnews h1 h63 hbytes hbase fun v' w' h2 h3 h4 h5 h6 => hK _ _ (h v' w' h2 h3 h4 h5 h6)
theorem ygd {w : World} {base e size n c g : Nat} {xs : List Value} (h : w.ownsRow base e size (.slice (some ⟨g, 0, none⟩) n c) n xs) (i : Nat) (hi : i ≤ n) :
  w.ownsRow base e size (.slice (some ⟨g, 0, none⟩) i c) i (xs.take (i * size)) := by
 have hm : i * size ≤ n * size := Nat.mul_le_mul_right _ hi
 refine ⟨by rw [List.length_take, h.1]; omega, ?_⟩
 rcases h.2 with ⟨h0, _⟩ | ⟨g', cap, cur, hv, hb, hg, hn, hc, hs, ht⟩
 ·cases h0
 ·injection hv with h1 h2 h3
  injection h1 with h1
  injection h1 with h1
  subst h1 h3
  exact .inr ⟨g, c, cur, rfl, hb, hg, by omega, hc, hs, by rw [← ht, List.take_take, Nat.min_eq_left hm]⟩
theorem yd3 {w : World} {base e size n c g : Nat} {xs : List Value} (h : w.ownsRow base e size (.slice (some ⟨g, 0, none⟩) n c) n xs) :
  ∃ cur, w.heap[g]? = some (.cells cur e (0, 0)) ∧ n ≤ c ∧ c ≤ maxLen ∧ cur.size = c * size ∧ cur.toList.take (n * size) = xs ∧ base ≤ g := by
 rcases h.2 with ⟨h0, _⟩ | ⟨g', cap, cur, hv, hb, hg, hn, hc, hs, ht⟩
 ·cases h0
 ·injection hv with h1 h2 h3
  injection h1 with h1
  injection h1 with h1
  subst h1 h3
  exact ⟨cur, hg, hn, hc, hs, ht, hb⟩
theorem yfj {w : World} {base e size n c g : Nat} {xs : List Value} {cur : Array Value} (hg : w.heap[g]? = some (.cells cur e (0, 0))) (hb : base ≤ g) (hn : n ≤ c) (hc : c ≤ maxLen) (hs : cur.size = c * size)
  (ht : cur.toList.take (n * size) = xs) : w.ownsRow base e size (.slice (some ⟨g, 0, none⟩) n c) n xs := by
 have hm : n * size ≤ c * size := Nat.mul_le_mul_right _ hn
 exact ⟨by rw [← ht, List.length_take, Array.length_toList, hs]; omega, .inr ⟨g, c, cur, rfl, hb, hg, hn, hc, hs, ht⟩⟩
theorem ydg (w : World) (g : Nat) (cs : Array Value) : w.grownBy (w.setRow g cs) (some g) :=
 ⟨rfl, rfl, rfl, by simp, fun k _ hk => setRow_other w g k cs (fun e => hk (by rw [e]))⟩
theorem yck {row : Option Nat} {a b c : World} (h : a.grownBy b row) (k : b.grownBy c row) : a.grownBy c row :=
 ⟨k.os.trans h.os, k.tape.trans h.tape, k.output.trans h.output, Nat.le_trans h.size k.size, fun i hi hn => (k.block i (Nat.lt_of_lt_of_le hi h.size) hn).trans (h.block i hi hn)⟩
theorem yfk {row : Option Nat} {a b : World} (h : a.grownBy b row) : a.grownBy b.drew row := ⟨h.os, h.tape, h.output, h.size, h.block⟩
theorem yen (row : Option Nat) (a : World) : a.grownBy a row := ⟨rfl, rfl, rfl, Nat.le_refl _, fun _ _ _ => rfl⟩
theorem yd4 {P : Program} (w : World) (dT sT ty elem : TypeId) (s g o dLen dCap : Nat) (a : Addr) (sLen sCap : Nat) (cur : Array Value) (t : TypeId) (cs : List Value)
  (hu : P.underlying dT = some (.slice elem)) (hs : (P.info? elem).map (·.size) = some s)
  (hg : w.heap[g]? = some (.cells cur t (0, 0))) (hn : cs.length = Nat.min sLen dLen * s)
  (hsrc : ∀ j v, cs[j]? = some v → w.cell? (a.add j) = some v) (hfit : o + cs.length ≤ cur.size) (h1 : ∀ v ∈ cs, v.oneCell' = true) :
  (Builtin.copy_ #[dT, sT] ty #[.slice (some ⟨g, o, none⟩) dLen dCap, .slice (some a) sLen sCap]).run P w =
   .ok (goInt (Nat.min sLen dLen : Nat)) (w.setRow g (cur.toList.take o ++ cs ++ cur.toList.drop (o + cs.length)).toArray) := by
 have hl := run_loadCells_list (P := P) w a cs hsrc
 have hst := run_storeCells_at P g o t cs 0 cur w hg (by simpa using hfit) h1
 cases hq : P.info? elem with
 | none => simp [hq] at hs
 | some i =>
  have hi : i.size = s := by simpa [hq] using hs
  simp [Builtin.copy_, run_underlying hu, Builtin.lenOf, Builtin.firstCells, sizeOf, typeInfo, hq, hi, ← hn, hl, hst]
theorem yly {P : Program} (w : World) (t e ty : TypeId) (z : Value) (ht : P.underlying t = some (.slice e)) (hv : ∀ w, (zeroValue e).run P w = .ok z w) (h1 : ∀ u ∈ z.cells, u.oneCell' = true)
  (g o n c : Nat) (cur : Array Value) (tt : TypeId) (hn : 0 < n) (hg : w.heap[g]? = some (.cells cur tt (0, 0))) (hfit : o + n * z.cells.size ≤ cur.size) :
  (Builtin.clear_ #[t] ty #[.slice (some ⟨g, o, none⟩) n c]).run P w =
   .ok (.tuple #[]) (w.setRow g (cur.toList.take o ++ (Builtin.zeroCells z.cells n).toList ++ cur.toList.drop (o + (Builtin.zeroCells z.cells n).toList.length)).toArray) := by
 have hsz : (Builtin.zeroCells z.cells n).toList.length = n * z.cells.size := by rw [Array.length_toList, size_zeroCells]
 have hone : ∀ u ∈ (Builtin.zeroCells z.cells n).toList, u.oneCell' = true := by
  intro u hu
  rw [Array.mem_toList_iff] at hu
  unfold Builtin.zeroCells at hu
  rw [Array.mem_map] at hu
  obtain ⟨i, hi, rfl⟩ := hu
  rw [Array.mem_range] at hi
  have hlt : 0 < z.cells.size := by
   rcases Nat.eq_zero_or_pos z.cells.size with h | h
   ·rw [h, Nat.mul_zero] at hi; omega
   ·exact h
  have hm := Nat.mod_lt i hlt
  rw [getElem!_pos z.cells _ hm]
  exact h1 _ (Array.getElem_mem hm)
 have hst := run_storeCells_at P g o tt (Builtin.zeroCells z.cells n).toList 0 cur w hg (by rw [hsz]; omega) hone
 simp only [Nat.add_zero] at hst
 obtain ⟨m, rfl⟩ : ∃ m, n = m + 1 := ⟨n - 1, by omega⟩
 simp only [Builtin.clear_, List.getElem?_toArray, List.getElem?_cons_zero]
 simp [run_underlying ht, hv, hst]
theorem yd5 {P : Program} {ops : Array Oper} {o : Oper} {a : Act} {w : World} {K : Act → World → Prop} {Q : Exit → Act → World → Prop} {E : Prop} (hg : o.guard = none) (s x : Operand) (t tn : TypeId)
  (ho : o.op = .call { callee := .builtin .append, args := #[s, x], argTypes := #[t, tn] }) (vs vx : Value) (hs : a.eval s = vs) (hx : a.eval x = vx)
  {v' : Value} {w' : World} (hr : (Builtin.append_ #[t, tn] o.type #[vs, vx]).run P w = .ok v' w') (h : K (a.put o.dst v') w') :
  if Region.wanted o (yielded ops a.tmps) = true then Oper.wp P o a w K Q else E := by
 rw [if_pos (by simp [Region.wanted, hg])]
 exact Lib.wp_append_run w s x t tn ho vs vx hs hx v' w' hr h
theorem wp_copy_run {P : Program} (w : World) {o : Oper} {a : Act} {K : Act → World → Prop} {Q : Exit → Act → World → Prop} (d s : Operand) (t t' : TypeId)
  (ho : o.op = .call { callee := .builtin .copy, args := #[d, s], argTypes := #[t, t'] }) (v u : Value) (hd : a.eval d = v) (hs : a.eval s = u) {v' : Value} {w' : World}
  (hr : (Builtin.copy_ #[t, t'] o.type #[v, u]).run P w = .ok v' w') (h : K (a.put o.dst v') w') : o.wp P a w K Q := by
 unfold Oper.wp execOp
 simp only [ho, resolve, invoke, builtin, Sem.run_bind, Sem.run_pure, Result.andThen_ok, List.map_toArray, List.map_cons, List.map_nil, hd, hs, hr]
 exact h
theorem wpList_copy_run {P : Program} (w : World) {ops : Array Oper} {rest : List Oper} {o : Oper} {a : Act} {Q : Exit → Act → World → Prop} (hgd : o.guard = none) (d s : Operand) (t t' : TypeId)
  (ho : o.op = .call { callee := .builtin .copy, args := #[d, s], argTypes := #[t, t'] }) (v u : Value) (hd : a.eval d = v) (hs : a.eval s = u) {v' : Value} {w' : World}
  (hr : (Builtin.copy_ #[t, t'] o.type #[v, u]).run P w = .ok v' w') (h : wpList P ops Q rest (a.put o.dst v') w') : wpList P ops Q (o :: rest) a w :=
 wpList_plain hgd fun _ hK => wp_copy_run w d s t t' ho v u hd hs hr (hK _ _ h)
theorem yhv {P : Program} {ops : Array Oper} {o : Oper} {a : Act} {w : World} {K : Act → World → Prop} {Q : Exit → Act → World → Prop} {E : Prop} (hg : o.guard = none) (d s : Operand) (t t' : TypeId)
  (ho : o.op = .call { callee := .builtin .copy, args := #[d, s], argTypes := #[t, t'] }) (v u : Value) (hd : a.eval d = v) (hs : a.eval s = u) {v' : Value} {w' : World}
  (hr : (Builtin.copy_ #[t, t'] o.type #[v, u]).run P w = .ok v' w') (h : K (a.put o.dst v') w') :
  if Region.wanted o (yielded ops a.tmps) = true then Oper.wp P o a w K Q else E := by
 rw [if_pos (by simp [Region.wanted, hg])]
 exact wp_copy_run w d s t t' ho v u hd hs hr h
theorem yqv {P : Program} (w : World) {o : Oper} {a : Act} {K : Act → World → Prop} {Q : Exit → Act → World → Prop} (d : Operand) (t : TypeId)
  (ho : o.op = .call { callee := .builtin .clear, args := #[d], argTypes := #[t] }) (v : Value) (hd : a.eval d = v) {v' : Value} {w' : World}
  (hr : (Builtin.clear_ #[t] o.type #[v]).run P w = .ok v' w') (h : K (a.put o.dst v') w') : o.wp P a w K Q := by
 unfold Oper.wp execOp
 simp only [ho, resolve, invoke, builtin, Sem.run_bind, Sem.run_pure, Result.andThen_ok, List.map_toArray, List.map_cons, List.map_nil, hd, hr]
 exact h
theorem yhw {P : Program} (w : World) {ops : Array Oper} {rest : List Oper} {o : Oper} {a : Act} {Q : Exit → Act → World → Prop} (hgd : o.guard = none) (d : Operand) (t : TypeId)
  (ho : o.op = .call { callee := .builtin .clear, args := #[d], argTypes := #[t] }) (v : Value) (hd : a.eval d = v) {v' : Value} {w' : World}
  (hr : (Builtin.clear_ #[t] o.type #[v]).run P w = .ok v' w') (h : wpList P ops Q rest (a.put o.dst v') w') : wpList P ops Q (o :: rest) a w :=
 wpList_plain hgd fun _ hK => yqv w d t ho v hd hr (hK _ _ h)
def lay (L : List Value) (o : Nat) (cs : List Value) : List Value := L.take o ++ cs ++ L.drop (o + cs.length)
theorem yd6 (L : List Value) (o : Nat) (cs : List Value) (h : o + cs.length ≤ L.length) : (lay L o cs).length = L.length := by
 simp only [lay, List.length_append, List.length_take, List.length_drop]; omega
theorem ylz (L us cs : List Value) (o q : Nat) (hq : q = o + us.length) (h : q + cs.length ≤ L.length) : lay (lay L q cs) o us = L.take o ++ (us ++ (cs ++ L.drop (q + cs.length))) := by
 subst hq
 have h1 : (L.take (o + us.length)).length = o + us.length := by rw [List.length_take]; omega
 have e1 : (lay L (o + us.length) cs).take o = L.take o := by
  rw [lay, List.append_assoc, List.take_append_of_le_length (by rw [h1]; omega), List.take_take, Nat.min_eq_left (by omega)]
 have e2 : (lay L (o + us.length) cs).drop (o + us.length) = cs ++ L.drop (o + us.length + cs.length) := by
  rw [lay, List.append_assoc, List.drop_left' h1]
 rw [lay, e1, e2, List.append_assoc]
theorem yl0 (L us cs : List Value) (o q : Nat) (hq : q = o + us.length) (h : q + cs.length ≤ L.length) : lay (lay L o us) q cs = L.take o ++ (us ++ (cs ++ L.drop (q + cs.length))) := by
 subst hq
 have h1 : (L.take o ++ us).length = o + us.length := by rw [List.length_append, List.length_take]; omega
 have e1 : (lay L o us).take (o + us.length) = L.take o ++ us := by rw [lay, List.take_left' h1]
 have e2 : (lay L o us).drop (o + us.length + cs.length) = L.drop (o + us.length + cs.length) := by
  rw [lay, ← List.drop_drop, List.drop_left' h1, List.drop_drop]
 rw [lay, e1, e2, List.append_assoc, List.append_assoc]
def rowC {α : Type} (enc : α → Array Value) (l : List α) : List Value := l.flatMap fun x => (enc x).toList
theorem yqw {α : Type} (enc : α → Array Value) : rowC enc [] = [] := rfl
theorem yfl {α : Type} (enc : α → Array Value) (x : α) (l : List α) : rowC enc (x :: l) = (enc x).toList ++ rowC enc l := rfl
theorem yc2 {α : Type} (enc : α → Array Value) (l m : List α) : rowC enc (l ++ m) = rowC enc l ++ rowC enc m := by simp [rowC]
theorem yjj {α : Type} (enc : α → Array Value) (x : α) : rowC enc [x] = (enc x).toList := by simp [rowC]
theorem ydh {α : Type} {enc : α → Array Value} {k : Nat} (h : ∀ x, (enc x).size = k) : ∀ l : List α, (rowC enc l).length = l.length * k
 | [] => by simp [yqw]
 | x :: l => by rw [yfl, List.length_append, ydh h l, Array.length_toList, h, List.length_cons, Nat.add_mul]; omega
theorem yeo {α : Type} {enc : α → Array Value} {k : Nat} (h : ∀ x, (enc x).size = k) : ∀ (l : List α) (i j : Nat) (x : α), l[i]? = some x → j < k → (rowC enc l)[i * k + j]? = (enc x)[j]?
 | y :: l, 0, j, x, hx, hj => by
  simp at hx
  subst hx
  rw [Nat.zero_mul, Nat.zero_add, yfl, List.getElem?_append_left (by rw [Array.length_toList, h]; exact hj), Array.getElem?_toList]
 | y :: l, i + 1, j, x, hx, hj => by
  rw [yfl, Nat.add_mul, List.getElem?_append_right (by rw [Array.length_toList, h]; omega), show i * k + 1 * k + j - (enc y).toList.length = i * k + j by rw [Array.length_toList, h]; omega, yeo h l i j x (by simpa using hx) hj]
 | [], i, j, x, hx, hj => by cases hx
theorem yqx {α : Type} {enc : α → Array Value} {k : Nat} (h : ∀ x, (enc x).size = k) (l : List α) (n : Nat) : (rowC enc l).take (n * k) = rowC enc (l.take n) := by
 induction l generalizing n with
 | nil => simp [rowC]
 | cons p l ih =>
  cases n with
  | zero => simp [rowC]
  | succ n => rw [show (n + 1) * k = (enc p).toList.length + n * k by rw [Array.length_toList, h, Nat.add_mul]; omega, yfl, List.take_length_add_append, ih, List.take_succ_cons, yfl]
theorem yl1 {α : Type} {enc : α → Array Value} {k : Nat} (h : ∀ x, (enc x).size = k) (l : List α) (n : Nat) : (rowC enc l).drop (n * k) = rowC enc (l.drop n) := by
 induction l generalizing n with
 | nil => simp [rowC]
 | cons p l ih =>
  cases n with
  | zero => simp
  | succ n => rw [show (n + 1) * k = (enc p).toList.length + n * k by rw [Array.length_toList, h, Nat.add_mul]; omega, yfl, List.drop_length_add_append, ih, List.drop_succ_cons]
theorem yjk {α : Type} {enc : α → Array Value} {l : List α} (h : ∀ x ∈ l, (enc x).all (·.oneCell') = true) : ∀ u ∈ rowC enc l, u.oneCell' = true := by
 intro u hu
 obtain ⟨p, hp1, hp⟩ := List.mem_flatMap.1 hu
 exact Array.all_eq_true_iff_forall_mem.1 (h p hp1) u (by simpa using hp)
def From (w : World) (size : Nat) (x : Value) (m : Nat) (news : List Value) : Prop :=
 (x = .slice none 0 0 ∧ m = 0 ∧ news = []) ∨ ∃ ad c, x = .slice (some ad) m c ∧ news.length = m * size ∧ ∀ j u, news[j]? = some u → w.cell? (ad.add j) = some u
theorem From.own {w : World} {base e size n : Nat} {v : Value} {xs : List Value} (h : w.ownsRow base e size v n xs) : From w size v n xs := by
 rcases h.2 with ⟨rfl, rfl⟩ | ⟨g, cap, cur, rfl, _⟩
 ·exact .inl ⟨rfl, rfl, List.eq_nil_of_length_eq_zero (by simpa using h.1)⟩
 ·exact .inr ⟨_, _, rfl, h.1, h.cells (g := g) rfl⟩
theorem yhx {P : Program} (w : World) (base : Nat) (t ty e : TypeId) (i : TypeInfo) (z : Value) (size bytes : Nat) (ht : P.underlying t = some (.slice e)) (hi : P.info? e = some i) (hz : i.zero = some z)
  (hsize : i.size = size) (hby : i.bytes = bytes) (hzs : z.cells.size = size) (hsz : 0 < size)
  (v : Value) (n : Nat) (xs : List Value) (hown : w.ownsRow base e size v n xs) (x : Value) (m : Nat) (news : List Value) (hx : From w size x m news) (h1 : ∀ u ∈ news, u.oneCell' = true)
  (h63 : n + m ≤ maxLen) (hbytes : (n + m) * bytes ≤ 140737488355328) (hbase : base ≤ w.heap.size) :
  ∃ v' w', (Builtin.append_ #[t, t] ty #[v, x]).run P w = .ok v' w' ∧ w'.ownsRow base e size v' (n + m) (xs ++ news) ∧ w.grownBy w' v.ownBlock ∧ yax w v v' := by
 rcases hx with ⟨rfl, rfl, rfl⟩ | ⟨ad, c, rfl, hl, hn⟩
 ·refine ⟨v, w, run_append_owned_none (P := P) w base t ty e i size ht hi v n xs hown, by simpa using hown, yen _ _, fun q hq => .inl hq⟩
 ·obtain ⟨v', w', a, b, c, _, _, d⟩ := ylx (P := P) w base t ty e i z size bytes ht hi hz hsize hby hzs hsz v n xs hown ad m c news hl hn h1 h63 hbytes hbase
  exact ⟨v', w', a, b, c, d⟩
theorem yl2 {P : Program} {w : World} {o : Oper} {a : Act} {K : Act → World → Prop} {Q : Exit → Act → World → Prop} (s x : Operand) (t : TypeId)
  (ho : o.op = .call { callee := .builtin .append, args := #[s, x], argTypes := #[t, t] })
  (base : Nat) (e : TypeId) (i : TypeInfo) (z : Value) (size bytes : Nat) (ht : P.underlying t = some (.slice e)) (hi : P.info? e = some i) (hz : i.zero = some z)
  (hsize : i.size = size) (hby : i.bytes = bytes) (hzs : z.cells.size = size) (hsz : 0 < size)
  (v : Value) (n : Nat) (xs : List Value) (hs : a.eval s = v) (hown : w.ownsRow base e size v n xs)
  (y : Value) (m : Nat) (news : List Value) (hx : a.eval x = y) (hsrc : From w size y m news) (h1 : ∀ u ∈ news, u.oneCell' = true)
  (h63 : n + m ≤ maxLen) (hbytes : (n + m) * bytes ≤ 140737488355328) (hbase : base ≤ w.heap.size)
  (h : ∀ A c w', w'.ownsRow base e size (.slice A (n + m) c) (n + m) (xs ++ news) → w.grownBy w' v.ownBlock → yax w v (.slice A (n + m) c) → K (a.put o.dst (.slice A (n + m) c)) w') : o.wp P a w K Q := by
 obtain ⟨v', w', hr, h2, h3, h4⟩ := yhx (P := P) w base t o.type e i z size bytes ht hi hz hsize hby hzs hsz v n xs hown y m news hsrc h1 h63 hbytes hbase
 obtain ⟨A, c, rfl⟩ := yav h2
 unfold Oper.wp execOp
 simp only [ho, resolve, invoke, builtin, Sem.run_bind, Sem.run_pure, Result.andThen_ok, List.map_toArray, List.map_cons, List.map_nil, hs, hx, hr]
 exact h A c w' h2 h3 h4
theorem yc3 {P : Program} {ops : Array Oper} {o : Oper} {a : Act} {w : World} {K : Act → World → Prop} {Q : Exit → Act → World → Prop} {E : Prop} (hg : o.guard = none) (s x : Operand) (t : TypeId)
  (ho : o.op = .call { callee := .builtin .append, args := #[s, x], argTypes := #[t, t] })
  (base : Nat) (e : TypeId) (i : TypeInfo) (z : Value) (size bytes : Nat) (ht : P.underlying t = some (.slice e)) (hi : P.info? e = some i) (hz : i.zero = some z)
  (hsize : i.size = size) (hby : i.bytes = bytes) (hzs : z.cells.size = size) (hsz : 0 < size)
  (v : Value) (n : Nat) (xs : List Value) (hs : a.eval s = v) (hown : w.ownsRow base e size v n xs)
  (y : Value) (m : Nat) (news : List Value) (hx : a.eval x = y) (hsrc : From w size y m news) (h1 : ∀ u ∈ news, u.oneCell' = true)
  (h63 : n + m ≤ maxLen) (hbytes : (n + m) * bytes ≤ 140737488355328) (hbase : base ≤ w.heap.size)
  (h : ∀ A c w', w'.ownsRow base e size (.slice A (n + m) c) (n + m) (xs ++ news) → w.grownBy w' v.ownBlock → yax w v (.slice A (n + m) c) → K (a.put o.dst (.slice A (n + m) c)) w') :
  if Region.wanted o (yielded ops a.tmps) = true then Oper.wp P o a w K Q else E := by
 rw [if_pos (by simp [Region.wanted, hg])]
 exact yl2 s x t ho base e i z size bytes ht hi hz hsize hby hzs hsz v n xs hs hown y m news hx hsrc h1 h63 hbytes hbase h
theorem yc4 {P : Program} {w : World} {ops : Array Oper} {rest : List Oper} {o : Oper} {a : Act} {Q : Exit → Act → World → Prop} (hgd : o.guard = none) (s x : Operand) (t : TypeId)
  (ho : o.op = .call { callee := .builtin .append, args := #[s, x], argTypes := #[t, t] })
  (base : Nat) (e : TypeId) (i : TypeInfo) (z : Value) (size bytes : Nat) (ht : P.underlying t = some (.slice e)) (hi : P.info? e = some i) (hz : i.zero = some z)
  (hsize : i.size = size) (hby : i.bytes = bytes) (hzs : z.cells.size = size) (hsz : 0 < size)
  (v : Value) (n : Nat) (xs : List Value) (hs : a.eval s = v) (hown : w.ownsRow base e size v n xs)
  (y : Value) (m : Nat) (news : List Value) (hx : a.eval x = y) (hsrc : From w size y m news) (h1 : ∀ u ∈ news, u.oneCell' = true)
  (h63 : n + m ≤ maxLen) (hbytes : (n + m) * bytes ≤ 140737488355328) (hbase : base ≤ w.heap.size)
  (h : ∀ A c w', w'.ownsRow base e size (.slice A (n + m) c) (n + m) (xs ++ news) → w.grownBy w' v.ownBlock → yax w v (.slice A (n + m) c) → wpList P ops Q rest (a.put o.dst (.slice A (n + m) c)) w') : wpList P ops Q (o :: rest) a w :=
 wpList_plain hgd fun _ hK => yl2 s x t ho base e i z size bytes ht hi hz hsize hby hzs hsz v n xs hs hown y m news hx hsrc h1 h63 hbytes hbase fun A c w' h2 h3 h4 => hK _ _ (h A c w' h2 h3 h4)
end Go.Proofs.YtnjodhglbapnlaaGreat
