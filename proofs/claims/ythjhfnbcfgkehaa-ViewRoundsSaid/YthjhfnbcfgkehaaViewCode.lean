/-
  The code's view in memory (VH); its parts (ring); a list in which a part begins at each of two points (cut).
-/
import Derived.Test.YthjhfnbcfgkehaaViewCompact
import Derived.Test.YthjhfnbcfgkehaaViewBase
import Derived.Test.YthjhfnbcfgkehaaArcIn
namespace Go.Proofs.Ythjhfnbcfgkehaa
open Go.RowKit

theorem own_mono2 {W : World} {base b0 e size n : Nat} {v : Value} {xs : List Value} (h : W.ownsRow base e size v n xs) (hb : b0 ≤ base) : W.ownsRow b0 e size v n xs := by
  refine ⟨h.1, ?_⟩
  rcases h.2 with h0 | ⟨g, cap, cur, hv, hg, r⟩
  · exact .inl h0
  · exact .inr ⟨g, cap, cur, hv, Nat.le_trans hb hg, r⟩
/-- the view at block g: what arcs it tells, and its blocks -/
def VH (w : World) (g : Nat) (a : List AO) (F : List Nat) : Prop :=
  ∃ (P : List PT) (A : Option Addr) (n c : Nat), PFull P ∧ a = arcsP P ∧ Var w g (.slice A n c) ∧ ((A = none ∧ n = 0 ∧ c = 0 ∧ P = [PT0] ∧ F = [g]) ∨ (∃ q, A = some ⟨q, 0, none⟩ ∧ PtRow w 0 (.slice A n c) n P ∧ q ≠ g ∧ F = [g, q]))
/-- a row of one part that was made just now -/
theorem pr_new (W : World) (p : PT) : PtRow (W.alloc (.cells p.cells 50)) W.heap.size (.slice (some ⟨W.heap.size, 0, none⟩) 1 1) 1 [p] :=
  own_of_raw (cur := p.cells) (heap_alloc_new W _) (Nat.le_refl _) (Nat.le_refl _) (by decide) rfl (by show _ = rowC PT.cells [p]; rw [rowC_one1]; rfl)
def RingPost (W : World) (P : List PT) (F : List Nat) (e : Ending) (w' : World) : Prop :=
  ∃ A n c, e = .returned (.slice A n c) ∧ PtRow w' 0 (.slice A n c) n P ∧ (∀ q, (Value.slice A n c).ownBlock = some q → q ∈ F ∨ W.heap.size ≤ q) ∧ Below W.heap.size W w'
set_option maxRecDepth 20000 in
theorem ring_any {W : World} {g n c : Nat} {A : Option Addr} {P : List PT} {F : List Nat} (hv : Var W g (.slice A n c)) (h : (A = none ∧ n = 0 ∧ c = 0 ∧ P = [PT0] ∧ F = [g]) ∨ (∃ q, A = some ⟨q, 0, none⟩ ∧ PtRow W 0 (.slice A n c) n P ∧ q ≠ g ∧ F = [g, q])) :
    Calls Try.prog 19 #[.pointer (some ⟨g, 0, none⟩)] W (RingPost W P F) := by
  have c1 := hv.val
  rcases h with ⟨rfl, rfl, rfl, rfl, rfl⟩ | ⟨q, rfl, hr, hq, rfl⟩
  · have hq := Lib.run_eql_slice_nil (P := Try.prog) W 30 50 none 0 0 0 0 Try.underlying30
    have HF : Hid (RingPost W [PT0] [g] (.returned (.slice (some ⟨W.heap.size, 0, none⟩) 1 1)) (W.alloc (.cells PT0.cells 50))) :=
      ⟨_, _, _, rfl, own_mono2 (pr_new W PT0) (Nat.zero_le _), fun q hq => .inr (Nat.le_of_eq (Option.some.inj hq)), (Below.refl _ _).alloc (Nat.le_refl _) _⟩
    clear hv
    go_enter Try.func19, Try.ntmps19
    go_wp2
    go_ret
    exact HF.out
  · have hq2 := Lib.run_eql_slice_nil (P := Try.prog) W 30 50 (some ⟨q, 0, none⟩) n c 0 0 Try.underlying30
    have HF : Hid (RingPost W P [g, q] (.returned (.slice (some ⟨q, 0, none⟩) n c)) W) := ⟨_, _, _, rfl, hr, fun q' hq' => .inl (by have := Option.some.inj hq'; simp [← this]), Below.refl _ _⟩
    clear hv hr
    go_enter Try.func19, Try.ntmps19
    go_wp2
    go_ret
    exact HF.out
def CutPost (W : World) (P : List PT) (f t : Nat) (e : Ending) (w' : World) : Prop :=
  ∃ (A : Option Addr) (n c : Nat) (Q : List PT), e = .returned (.slice A n c) ∧ PtRow w' W.heap.size (.slice A n c) n Q ∧ PInv Q ∧ (∀ y, (at_ Q y).v = (at_ P y).v) ∧ (∃ p ∈ Q, p.x = f) ∧ (∃ p ∈ Q, p.x = t) ∧ n ≤ P.length + 2 ∧ Below W.heap.size W w'
set_option maxRecDepth 100000 in
set_option maxHeartbeats 4000000 in
theorem cut_any {W : World} {A : Option Addr} {n c b : Nat} {P : List PT} {f t : Nat} (hr : PtRow W 0 (.slice A n c) n P) (hl : n ≤ 90000) (hP : PInv P) (hf : f < 18446744073709551616) (ht : t < 18446744073709551616) (hb : W.heap[b]? = some (.cells #[.int .u64 (f : Nat), .int .u64 (t : Nat)] 23)) :
    Calls Try.prog 18 #[.slice A n c, .slice (some ⟨b, 0, none⟩) 2 2] W (CutPost W P f t) := by
  have hn := pr_len hr
  have hpos : 0 < n := by rw [← hn]; exact List.length_pos_iff.2 hP.ne
  obtain ⟨g, rfl⟩ := pr_at hr hpos
  have hbl : b < W.heap.size := (Array.getElem?_eq_some_iff.1 hb).1
  have CC := Lib.hid (cloneParts_any g 0 n c (partC P) W hr.1 (by omega) (hr.cells (g := g) rfl) (partC_one P))
  have HPT : Hid (∀ w, Below W.heap.size W w → w.cell? ⟨b, 0, none⟩ = some (.int .u64 (f : Nat)) ∧ w.cell? ⟨b, 1, none⟩ = some (.int .u64 (t : Nat))) := fun w hw => by
    have e : w.heap[b]? = some (.cells #[.int .u64 (f : Nat), .int .u64 (t : Nat)] 23) := (hw.block b hbl).trans hb
    exact ⟨by rw [Lib.cell_of_heap e]; rfl, by rw [Lib.cell_of_heap e]; rfl⟩
  clear hr
  go_enter Try.func18, Try.ntmps18
  go_wp2_with (go_at_call 27; (with_reducible refine (CC.out).mono ?_); rintro e w1 ⟨v1, rfl, hr1, hb1⟩; obtain ⟨A1, c1, rfl, -, -⟩ := pr_slice hr1; have HR1 := Lib.hid hr1; have HB1 := Lib.hid hb1; clear hr1 hb1)
  obtain ⟨ob, hob⟩ : ∃ ob, W.heap.size = ob := ⟨_, rfl⟩
  rw [hob] at HR1
  have HOB := Lib.hid hob
  have HI : Hid (PInv P) := hP
  have HNN := Lib.hid hn
  clear CC hob hn hP
  go_loopg [0, 14] 2 (fun gh s0 s14 wx => ∃ (i n2 c2 : Nat) (A2 : Option Addr) (Q : List PT), i + gh = 2 ∧ n2 ≤ n + i ∧ 0 < n2 ∧ s0 = .slice A2 n2 c2 ∧ s14 = .int .i64 (i : Nat) ∧ Hid (Below W.heap.size W wx) ∧ Hid (PtRow wx ob (.slice A2 n2 c2) n2 Q) ∧ Hid (PInv Q ∧ ∀ y, (at_ Q y).v = (at_ P y).v) ∧ Hid (1 ≤ i → ∃ p ∈ Q, p.x = f) ∧ Hid (2 ≤ i → ∃ p ∈ Q, p.x = t))
  case atStart => exact ⟨0, n, c1, A1, P, by omega, by omega, hpos, rfl, rfl, HB1.out, HR1.out, ⟨HI.out, fun _ => rfl⟩, fun h => by omega, fun h => by omega⟩
  case round =>
    obtain ⟨i, n2, c2, A2, Q, hig, hn2, hp2, rfl, rfl, HB, HR, HQ, HF, HT⟩ := hrel
    by_cases hlt : i < 2
    · have i1 : (i : Int) < 2 := by omega
      obtain ⟨x, hx, hxc, hx0, hx1⟩ : ∃ x, x < 18446744073709551616 ∧ wr.cell? ⟨b, i, none⟩ = some (.int .u64 (x : Nat)) ∧ (i = 0 → x = f) ∧ (i = 1 → x = t) := by
        have h := HPT.out wr HB.out
        rcases (by omega : i = 0 ∨ i = 1) with rfl | rfl
        · exact ⟨f, hf, h.1, fun _ => rfl, fun z => by omega⟩
        · exact ⟨t, ht, h.2, fun z => by omega, fun _ => rfl⟩
      have CS := Lib.hid (search_any Q x A2 c2 n2 wr (by omega) (own_mono2 HR.out (Nat.zero_le _)) HQ.out.1.up)
      go_upto_region 6 with (go_at_call 28; (with_reducible refine (CS.out).mono ?_); rintro e w2 ⟨k, bo, rfl, hk, h1, h2, h3, hb2⟩; have H1 := Lib.hid h1; have H2 := Lib.hid h2; have H3 := Lib.hid h3; have HB2 := Lib.hid hb2; clear h1 h2 h3 hb2)
      have HR2 := Lib.hid (pr_below HR.out HB2.out)
      have HBB2 := Lib.hid (acc HB.out HB2.out)
      clear CS
      cases bo
      · obtain ⟨s, hs⟩ : ∃ s : Nat, s = k + n2 - 1 := ⟨_, rfl⟩
        have hs1 : (k : Int) + (n2 : Int) - 1 = (s : Nat) := by omega
        obtain ⟨m, hm⟩ : ∃ m, s % n2 = m := ⟨_, rfl⟩
        have hm1 : m < n2 := by rw [← hm]; exact Nat.mod_lt _ hp2
        have hm2 : (s : Int) % (n2 : Int) = (m : Nat) := by rw [← hm]; rfl
        have HNQ := Lib.hid (pr_len HR.out)
        have HSP : Hid (∃ l1 l2, Q = l1 ++ l2 ∧ l1.length = k ∧ (∀ q ∈ l1, q.x < x) ∧ (∀ q ∈ l2, x < q.x)) := by
          refine ⟨Q.take k, Q.drop k, (List.take_append_drop k Q).symm, by rw [List.length_take, HNQ.out]; omega, fun q hq => ?_, fun q hq => ?_⟩
          · obtain ⟨i, hi, rfl⟩ := List.getElem_of_mem hq
            have hi2 : i < k := by rw [List.length_take] at hi; omega
            refine H1.out i _ ?_ hi2
            rw [List.getElem_take]
            exact List.getElem?_eq_getElem _
          · obtain ⟨i, hi, rfl⟩ := List.getElem_of_mem hq
            refine H3.out rfl (k + i) _ ?_ (by omega)
            rw [List.getElem_drop]
            exact List.getElem?_eq_getElem _
        obtain ⟨l1, l2, hQ, hl1, ha1, ha2⟩ := HSP.out
        have har : Q[m]? = some (at_ Q x) := by
          have h := around_eq (l1 := l1) (l2 := l2) (x := x) (by rw [← hQ]; exact HQ.out.1.up) ha1 ha2 (by rw [← hQ]; exact HQ.out.1.ne)
          rw [← hQ, hl1, HNQ.out, ← hs, hm] at h
          exact h
        obtain ⟨g2, rfl⟩ := pr_at HR2.out hp2
        have HRA := Lib.hid (pr_range HR2.out har)
        have HSM := Lib.hid hQ
        have HL1 := Lib.hid hl1
        have HA1 := Lib.hid ha1
        have HA2 := Lib.hid ha2
        have HAR := Lib.hid har
        have HIQ : Hid (PInv (l1 ++ ptAt Q x :: l2) ∧ ∀ y, (at_ (l1 ++ ptAt Q x :: l2) y).v = (at_ P y).v) := by
          have hq := HQ.out
          subst hQ
          exact ⟨hq.1.put hx ha1 ha2, fun y => (put_at hq.1.up ha1 ha2 hq.1.ne y).trans (hq.2 y)⟩
        clear H1 H2 H3 HSP hQ hl1 ha1 ha2 har hs hm
        obtain ⟨a, haa⟩ : ∃ a, at_ Q x = a := ⟨_, rfl⟩
        have HAA := Lib.hid haa
        rw [haa] at HRA
        clear haa
        have hsz : (Try.prog.info? 50).map (·.size) = some a.cells.toList.length := pt_info
        have hszp : (Try.prog.info? 50).map (·.size) = some a.cells.size := pt_info
        have hold : (#[.int .u64 0, .int .i64 0, .int .i64 0] : Array Value).size = a.cells.size := rfl
        have hone := pt_one a
        go_upto_region 8 with (first
          | (refine wpList_load_mid rfl 50 (.tmp 35) rfl g2 (m * 3) rfl a.cells.toList _ HRA.out Try.underlying50 rfl hsz ?_)
          | (with_reducible (show wpList _ _ _ (⟨none, Op.store _ (Operand.tmp 9) _, _, _, _, _⟩ :: _) _ _); go_must (refine wpList_store_row rfl 50 (.tmp 9) (.tmp 36) rfl w2.heap.size a.cells rfl rfl 50 #[.int .u64 0, .int .i64 0, .int .i64 0] (heap_alloc_new w2 _) hszp hold hone ?_)))
        obtain ⟨b3, hb3⟩ : ∃ b3, w2.heap.size = b3 := ⟨_, rfl⟩
        have B3 := bx_new w2 #[.int .u64 0, .int .i64 0, .int .i64 0] a.cells 50
        have h3 : ((w2.alloc (.cells #[.int .u64 0, .int .i64 0, .int .i64 0] 50)).setRow w2.heap.size a.cells).heap[w2.heap.size]? = some (.cells a.cells 50) := bx_row _ (heap_alloc_new w2 _)
        obtain ⟨w3, hw3⟩ : ∃ w3, (w2.alloc (.cells #[.int .u64 0, .int .i64 0, .int .i64 0] 50)).setRow w2.heap.size a.cells = w3 := ⟨_, rfl⟩
        rw [hw3] at B3 h3 ⊢
        rw [hb3] at h3 ⊢
        have e1 : w3.cell? ⟨b3, 1, none⟩ = some (.int .i64 a.n) := by rw [Lib.cell_of_heap h3]; rfl
        have e2 : w3.cell? ⟨b3, 2, none⟩ = some (.int .i64 a.e) := by rw [Lib.cell_of_heap h3]; rfl
        have B4 : Below w2.heap.size w2 (w3.alloc (.cells #[.int .u64 (x : Nat), .int .i64 a.n, .int .i64 a.e] 50)) := B3.alloc B3.size _
        have hr4 := pr_below HR2.out B4
        have hg2 : g2 < w2.heap.size ∧ ob ≤ g2 := ⟨(HR2.out.lt g2 rfl).2, (HR2.out.lt g2 rfl).1⟩
        have hws := B3.size
        have hwo := HBB2.out.size
        have HBN := Lib.hid B4
        have CI := Lib.hid (insParts_any ob w3.heap.size n2 k (.slice (some ⟨g2, 0, none⟩) n2 c2) (partC Q) [.int .u64 (x : Nat), .int .i64 a.n, .int .i64 a.e] (w3.alloc (.cells #[.int .u64 (x : Nat), .int .i64 a.n, .int .i64 a.e] 50)) hr4 hk (by omega) (by simp; have := HOB.out; omega) (fun z => by have z : g2 = w3.heap.size := Option.some.inj z; omega) rfl (heap_alloc_new w3 _) (by simp [Value.oneCell']) (partC_one Q))
        clear hr4 hw3 B3 B4 h3
        go_wp2_with (go_at_call 31; (with_reducible refine (CI.out).mono ?_); rintro e w5 ⟨v5, rfl, hr5, hg5, -⟩; have HR5 := Lib.hid hr5; have HG5 := Lib.hid hg5; clear hr5 hg5)
        go_roundg (gk - 1)
        case measure => omega
        case rel =>
          have hin : ∀ p ∈ Q, p ∈ l1 ++ ptAt Q x :: l2 := fun p hp => by
            rw [HSM.out] at hp
            rcases List.mem_append.1 hp with z | z <;> simp [z]
          obtain ⟨A5, c5, rfl, -, -⟩ := pr_slice HR5.out
          refine ⟨i + 1, n2 + 1, c5, A5, l1 ++ ptAt Q x :: l2, by omega, by omega, by omega, rfl, by go_num, ?_, ?_, HIQ, fun _ => ?_, fun z => ?_⟩
          · have h1 := HOB.out
            exact (acc HBB2.out HBN.out).grown HG5.out (by simp; omega) (fun q hq => by have hq : g2 = q := Option.some.inj hq; omega)
          · have h5 := HR5.out
            have e1 : Q.take k = l1 := by rw [HSM.out, ← HL1.out]; simp
            have e2 : Q.drop k = l2 := by rw [HSM.out, ← HL1.out]; simp
            rw [rowC_take pt_size, rowC_drop pt_size, e1, e2] at h5
            show World.ownsRow _ _ _ _ _ _ (rowC PT.cells (l1 ++ ptAt Q x :: l2))
            rw [rowC_append, rowC_cons]
            show World.ownsRow _ _ _ _ _ _ (rowC PT.cells l1 ++ ([.int .u64 (x : Nat), .int .i64 (at_ Q x).n, .int .i64 (at_ Q x).e] ++ rowC PT.cells l2))
            rw [HAA.out]
            exact h5
          · rcases (by omega : i = 0 ∨ 1 ≤ i) with z | z
            · exact ⟨ptAt Q x, by simp, hx0 z⟩
            · obtain ⟨p, hp, he⟩ := HF.out z
              exact ⟨p, hin p hp, he⟩
          · exact ⟨ptAt Q x, by simp, hx1 (by omega)⟩
      · have HF2 : Hid (1 ≤ i + 1 → ∃ p ∈ Q, p.x = f) := fun _ => by
          rcases (by omega : i = 0 ∨ 1 ≤ i) with z | z
          · obtain ⟨p, hp, he⟩ := H2.out rfl
            exact ⟨p, List.mem_of_getElem? hp, he.trans (hx0 z)⟩
          · exact HF.out z
        have HT2 : Hid (2 ≤ i + 1 → ∃ p ∈ Q, p.x = t) := fun z => by
          obtain ⟨p, hp, he⟩ := H2.out rfl
          exact ⟨p, List.mem_of_getElem? hp, he.trans (hx1 (by omega))⟩
        clear H1 H2 H3
        go_wp2_with fail
        go_roundg (gk - 1)
        case measure => omega
        case rel => exact ⟨i + 1, n2, c2, A2, Q, by omega, by omega, hp2, rfl, by go_num, HBB2, HR2, HQ, HF2, HT2⟩
    · obtain rfl : i = 2 := by omega
      go_wp2_with fail
      go_ret
      exact ⟨A2, n2, c2, Q, rfl, by rw [HOB.out]; exact HR.out, HQ.out.1, HQ.out.2, HF.out (by omega), HT.out (by omega), by rw [HNN.out]; omega, HB.out⟩
end Go.Proofs.Ythjhfnbcfgkehaa
