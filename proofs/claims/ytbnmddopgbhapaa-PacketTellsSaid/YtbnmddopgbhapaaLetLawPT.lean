/-
  Nothing is in a letter just if the document calls it the zero one.
  The document's PutPacket, walked.
  The document's GetPacket, walked.
  Two packets that are the same: SamePacket, walked.
  Every packet as bytes, and back; every bytes: the walk of PacketTells.
-/
import Derived.Test.YtbnmddopgbhapaaLetRefD
import Derived.Test.YtbnmddopgbhapaaLetSome
import Derived.Test.YtbnmddopgbhapaaLetRefGet
import Derived.Test.YtbnmddopgbhapaaLetPackPut
import Derived.Test.YtbnmddopgbhapaaLetPackIn
import Derived.Test.YtbnmddopgbhapaaLetLawB
namespace Go.Proofs.Ytbnmddopgbhapaa
open Go.RowKit

theorem bne_false {a : Int} : (a != 0) = false ↔ (a == 0) = true := by cases h : (a == 0) <;> simp [bne, h]
theorem empty_false {s : ByteArray} : (!s.toList.isEmpty) = false ↔ (s.toList == []) = true := by cases s.toList <;> simp
theorem pos_false {n : Nat} : decide (0 < (n : Int)) = false ↔ ((n : Int) == 0) = true := by
  rw [decide_eq_false_iff_not, beq_iff_eq]
  omega
theorem bool_false {b : Bool} : b = false ↔ (!b) = true := by cases b <;> simp
theorem some_zero (l : LV) : someB l = !zeroB l := by
  have h : someB l = false ↔ zeroB l = true := by
    unfold someB someQs zeroB
    simp only [List.any_cons, List.any_nil, id, Bool.or_eq_false_iff, Bool.and_eq_true, bne_false, empty_false, pos_false, and_true]
    constructor
    · rintro ⟨h_k, h_f, h_t, h_i, h_ep, h_n, h_nd, h_af, h_au, h_li, h_op, h_key, h_val, h_kto, h_most, h_er, h_tv, h_ti, h_more, h_nx, h_tn⟩
      exact ⟨h_k, h_f, h_t, h_i, h_op, h_key, h_val, h_kto, h_most, h_af, h_au, h_ep, h_li, h_n, h_nd, h_er, h_tv, h_ti, bool_false.1 h_more, h_nx, h_tn⟩
    · rintro ⟨h_k, h_f, h_t, h_i, h_op, h_key, h_val, h_kto, h_most, h_af, h_au, h_ep, h_li, h_n, h_nd, h_er, h_tv, h_ti, h_more, h_nx, h_tn⟩
      exact ⟨h_k, h_f, h_t, h_i, h_ep, h_n, h_nd, h_af, h_au, h_li, h_op, h_key, h_val, h_kto, h_most, h_er, h_tv, h_ti, bool_false.2 h_more, h_nx, h_tn⟩
  cases hz : zeroB l with
  | true => exact h.2 hz
  | false =>
    cases hs : someB l with
    | true => rfl
    | false => rw [h.1 hs] at hz; cases hz
end Go.Proofs.Ytbnmddopgbhapaa
namespace Go.Proofs.Ytbnmddopgbhapaa
open Go.RowKit

theorem wpList_load_midH {P : Program} {ops : Array Oper} {rest : List Oper} {op : Oper} {a : Act} {w : World} {Q : Exit → Act → World → Prop} (hw : Region.wanted op (yielded ops a.tmps) = true) (ty : TypeId) (x : Operand) (ho : op.op = .load ty x)
    (b o : Nat) (hx : a.eval x = .pointer (some ⟨b, o, none⟩)) (cs : List Value) (d : TypeDesc) (hc : w.rangeAt b o cs)
    (hu : P.underlying ty = some d) (hd : d.isRow = true) (hi : (P.info? ty).map (·.size) = some cs.length)
    (h : wpList P ops Q rest (a.put op.dst (.agg cs.toArray)) w) : wpList P ops Q (op :: rest) a w := by
  unfold wpList
  rw [if_pos hw]
  exact .inl (wp_load_mid ty x ho b o hx cs d hc hu hd hi h)
theorem none_of {α : Type} {o : Option α} (h : o.isSome = false) : o = none := by cases o with | none => rfl | some _ => cases h
theorem some_of {α : Type} {o : Option α} (h : o.isSome = true) : ∃ x, o = some x := by cases o with | none => cases h | some x => exact ⟨x, rfl⟩
theorem putP_may (q : PV) : (putP q).isSome = (byteB q.pf && (byteB q.pt && (numeB q.sq && (numeB q.ak && (inP q).isSome)))) := by
  unfold putP
  rw [catO_every]
  have e : (packetOs q).all Option.isSome = ((numP 0 255 q.pf).isSome && ((numP 0 255 q.pt).isSome && ((numP 0 65535 q.sq).isSome && ((numP 0 65535 q.ak).isSome && ((inP q).isSome && true))))) := rfl
  rw [e, numP_is, numP_is, numP_is, numP_is, Bool.and_true]
  rfl
def headT (q : PV) : ByteArray := numT q.pf ++ numT q.pt ++ numT q.sq ++ numT q.ak
theorem putP_val {q : PV} {b t : ByteArray} (h : putP q = some b) (ht : inP q = some t) : headT q ++ t = b := by
  have h : catO [numP 0 255 q.pf, numP 0 255 q.pt, numP 0 65535 q.sq, numP 0 65535 q.ak, inP q] = some b := h
  obtain ⟨c0, h0, e0⟩ := catO_step h num_is
  obtain ⟨c1, h1, e1⟩ := catO_step h0 num_is
  obtain ⟨c2, h2, e2⟩ := catO_step h1 num_is
  obtain ⟨c3, h3, e3⟩ := catO_step h2 num_is
  rw [ht] at h3
  have e4 : t ++ ByteArray.empty = c3 := Option.some.inj h3
  rw [e0, e1, e2, e3, ← e4, append_empty]
  unfold headT
  simp only [append_assoc]
theorem inP_zero_is {q : PV} (h : q.sq = 0) : (inP q).isSome = zeroB q.lt ∧ (zeroB q.lt = true → inP q = some ByteArray.empty) := by
  unfold inP
  rw [if_pos h, some_zero]
  cases zeroB q.lt with
  | true => exact ⟨rfl, fun _ => rfl⟩
  | false => exact ⟨rfl, fun h => by cases h⟩
theorem inP_more_is {q : PV} (h : q.sq ≠ 0) : (inP q).isSome = mayB q.lt ∧ inP q = putL q.lt := by
  unfold inP
  rw [if_neg h]
  exact ⟨putL_may _, rfl⟩
theorem headT_sz (q : PV) : (headT q).size ≤ 8 := by
  have := numT_sz q.pf
  have := numT_sz q.pt
  have := numT_sz q.sq
  have := numT_sz q.ak
  unfold headT
  simp only [size_append]
  omega
set_option maxRecDepth 20000 in
set_option maxHeartbeats 8000000 in
theorem dpput_any (q : PV) (S1 S2 : Value) (W : World) (hF : q.Fine) (h1 : SlAt W S1 q.lt.ti) (h2 : SlAt W S2 q.lt.li) :
    Calls Try.prog 13 #[.agg (q.cells S1 S2)] W (PutPPost W q) := by
  have bw : Below W.heap.size W (W.alloc (.cells (q.cells S1 S2) 34)) := (Below.refl W.heap.size W).alloc (Nat.le_refl _) _
  have BW := Lib.hid bw
  have up : ∀ w, Below (W.alloc (.cells (q.cells S1 S2) 34)).heap.size (W.alloc (.cells (q.cells S1 S2) 34)) w → Below W.heap.size W w := fun w hb => bw.trans (hb.mono (by simp))
  have UP := Lib.hid up
  have hszl : (Try.prog.info? 32).map (·.size) = some (q.lt.cellsL S1 S2).length := by kernel_rfl
  have HR : Hid (∀ w, Below (W.alloc (.cells (q.cells S1 S2) 34)).heap.size (W.alloc (.cells (q.cells S1 S2) 34)) w → w.rangeAt W.heap.size 4 (q.lt.cellsL S1 S2) ∧ (w.cell? ⟨W.heap.size, 0, none⟩ = some (.int .i64 q.pf) ∧ w.cell? ⟨W.heap.size, 1, none⟩ = some (.int .i64 q.pt) ∧ w.cell? ⟨W.heap.size, 2, none⟩ = some (.int .i64 q.sq) ∧ w.cell? ⟨W.heap.size, 3, none⟩ = some (.int .i64 q.ak))) := fun w hb => by
    have e := (hb.block _ (by simp)).trans (heap_alloc_new W (.cells (q.cells S1 S2) 34))
    exact ⟨inner_range e, cell_at e rfl, cell_at e rfl, cell_at e rfl, cell_at e rfl⟩
  have HB0 : Hid (Below (W.alloc (.cells (q.cells S1 S2) 34)).heap.size (W.alloc (.cells (q.cells S1 S2) 34)) (W.alloc (.cells (q.cells S1 S2) 34))) := Below.refl _ _
  have hE := putP_may q
  obtain ⟨a1, ha1⟩ : ∃ a, byteB q.pf = a := ⟨_, rfl⟩
  obtain ⟨a2, ha2⟩ : ∃ a, byteB q.pt = a := ⟨_, rfl⟩
  obtain ⟨a3, ha3⟩ : ∃ a, numeB q.sq = a := ⟨_, rfl⟩
  obtain ⟨a4, ha4⟩ : ∃ a, numeB q.ak = a := ⟨_, rfl⟩
  have C1 : Hid (∀ w, Calls Try.prog 27 #[.int .i64 q.pf] w fun e w' => e = .returned (.bool a1) ∧ w = w') := fun w => ha1 ▸ byteful_any q.pf w
  have C2 : Hid (∀ w, Calls Try.prog 27 #[.int .i64 q.pt] w fun e w' => e = .returned (.bool a2) ∧ w = w') := fun w => ha2 ▸ byteful_any q.pt w
  have C3 : Hid (∀ w, Calls Try.prog 28 #[.int .i64 q.sq] w fun e w' => e = .returned (.bool a3) ∧ w = w') := fun w => ha3 ▸ numeral_any q.sq w
  have C4 : Hid (∀ w, Calls Try.prog 28 #[.int .i64 q.ak] w fun e w' => e = .returned (.bool a4) ∧ w = w') := fun w => ha4 ▸ numeral_any q.ak w
  have cle := fun w (hb : Below (W.alloc (.cells (q.cells S1 S2) 34)).heap.size (W.alloc (.cells (q.cells S1 S2) 34)) w) => dletter_any q.lt S1 S2 w hF.ltF (h1.below (up w hb)) (h2.below (up w hb))
  have cze := fun w (hb : Below (W.alloc (.cells (q.cells S1 S2) 34)).heap.size (W.alloc (.cells (q.cells S1 S2) 34)) w) => dzero_any q.lt S1 S2 w (h1.below (up w hb)) (h2.below (up w hb))
  have cpu := fun w (hb : Below (W.alloc (.cells (q.cells S1 S2) 34)).heap.size (W.alloc (.cells (q.cells S1 S2) 34)) w) t => dput_any q.lt S1 S2 t w hF.ltF (h1.below (up w hb)) (h2.below (up w hb))
  have CPU := Lib.hid cpu
  have N : Hid (∀ a, NumOk a → ∀ w, Calls Try.prog 31 #[.int .i64 a] w fun e w' => e = .returned (.string (numT a)) ∧ Below w.heap.size w w') := dnum_ok
  have HA1 := Lib.hid ha1
  have HA2 := Lib.hid ha2
  have HA3 := Lib.hid ha3
  have HA4 := Lib.hid ha4
  rw [ha1, ha2, ha3, ha4] at hE
  have HE := Lib.hid hE
  clear hE ha1 ha2 ha3 ha4 h1 h2 hF cpu
  unfold PutPPost
  cases a1 with
  | false =>
    have hn : Hid (putP q = none) := none_of HE.out
    clear cle cze
    go_enter Try.func13, Try.ntmps13
    go_wp2_with (first
    | (go_at_call 27; ((with_reducible refine (C1.out _).mono ?_); rintro e w9 ⟨rfl, rfl⟩)))
    go_ret2
    exact ⟨by rw [hn.out]; rfl, BW.out⟩
  | true =>
    cases a2 with
    | false =>
      have hn : Hid (putP q = none) := none_of HE.out
      clear cle cze
      go_enter Try.func13, Try.ntmps13
      go_wp2_with (first
    | (go_at_call 27; ((with_reducible refine (C1.out _).mono ?_); rintro e w9 ⟨rfl, rfl⟩))
    | (go_at_call 27; ((with_reducible refine (C2.out _).mono ?_); rintro e w9 ⟨rfl, rfl⟩)))
      go_ret2
      exact ⟨by rw [hn.out]; rfl, BW.out⟩
    | true =>
      cases a3 with
      | false =>
        have hn : Hid (putP q = none) := none_of HE.out
        clear cle cze
        go_enter Try.func13, Try.ntmps13
        go_wp2_with (first
    | (go_at_call 27; ((with_reducible refine (C1.out _).mono ?_); rintro e w9 ⟨rfl, rfl⟩))
    | (go_at_call 27; ((with_reducible refine (C2.out _).mono ?_); rintro e w9 ⟨rfl, rfl⟩))
    | (go_at_call 28; ((with_reducible refine (C3.out _).mono ?_); rintro e w9 ⟨rfl, rfl⟩)))
        go_ret2
        exact ⟨by rw [hn.out]; rfl, BW.out⟩
      | true =>
        cases a4 with
        | false =>
          have hn : Hid (putP q = none) := none_of HE.out
          clear cle cze
          go_enter Try.func13, Try.ntmps13
          go_wp2_with (first
    | (go_at_call 27; ((with_reducible refine (C1.out _).mono ?_); rintro e w9 ⟨rfl, rfl⟩))
    | (go_at_call 27; ((with_reducible refine (C2.out _).mono ?_); rintro e w9 ⟨rfl, rfl⟩))
    | (go_at_call 28; ((with_reducible refine (C3.out _).mono ?_); rintro e w9 ⟨rfl, rfl⟩))
    | (go_at_call 28; ((with_reducible refine (C4.out _).mono ?_); rintro e w9 ⟨rfl, rfl⟩)))
          go_ret2
          exact ⟨by rw [hn.out]; rfl, BW.out⟩
        | true =>
          have ok1 := numOk_num HA1.out (by omega)
          have ok2 := numOk_num HA2.out (by omega)
          have ok3 := numOk_num HA3.out (by omega)
          have ok4 := numOk_num HA4.out (by omega)
          have Npf := Lib.hid (N.out q.pf ok1)
          have Npt := Lib.hid (N.out q.pt ok2)
          have Nsq := Lib.hid (N.out q.sq ok3)
          have Nak := Lib.hid (N.out q.ak ok4)
          have hsq : 0 ≤ q.sq := ok3.1
          have HH : Hid (numT q.pf ++ numT q.pt ++ numT q.sq ++ numT q.ak = headT q) := rfl
          have n1 := numT_sz q.pf
          have n2 := numT_sz q.pt
          have n3 := numT_sz q.sq
          have n4 := numT_sz q.ak
          have HP : Hid (¬ (9223372036854775807 < (numT q.pf).size + (numT q.pt).size) ∧ ¬ (9223372036854775807 < (numT q.pf).size + (numT q.pt).size + (numT q.sq).size) ∧ ¬ (9223372036854775807 < (numT q.pf).size + (numT q.pt).size + (numT q.sq).size + (numT q.ak).size)) := ⟨by omega, by omega, by omega⟩
          clear ok1 ok2 ok3 ok4 n1 n2 n3 n4 HA1 HA2 HA3 HA4 N
          by_cases h0 : q.sq = 0
          · obtain ⟨i1, i2⟩ := inP_zero_is h0
            have d0 : decide (0 < q.sq) = false := decide_eq_false (by omega)
            have d1 : (q.sq == 0) = true := by rw [beq_iff_eq]; exact h0
            rw [i1] at HE
            clear cle
            cases hz : zeroB q.lt with
            | false =>
              rw [hz] at HE cze
              have hn : Hid (putP q = none) := none_of HE.out
              have CZ := Lib.hid cze
              clear cze i1 i2 h0 hsq
              go_enter Try.func13, Try.ntmps13
              go_wp2_with (first
    | (go_at_call 27; ((with_reducible refine (C1.out _).mono ?_); rintro e w9 ⟨rfl, rfl⟩))
    | (go_at_call 27; ((with_reducible refine (C2.out _).mono ?_); rintro e w9 ⟨rfl, rfl⟩))
    | (go_at_call 28; ((with_reducible refine (C3.out _).mono ?_); rintro e w9 ⟨rfl, rfl⟩))
    | (go_at_call 28; ((with_reducible refine (C4.out _).mono ?_); rintro e w9 ⟨rfl, rfl⟩))
    | (go_at_call 30; ((with_reducible refine (CZ.out _ HB0.out).mono ?_); rintro e w4 ⟨rfl, hb⟩; have HB4 := Lib.hid hb; clear hb; obtain ⟨-, c0, c1, c2, c3⟩ := HR.out w4 HB4.out))
    | (with_reducible (show wpList _ _ _ (⟨some _, Op.load _ (Operand.tmp 43), _, _, _, _⟩ :: _) _ _); go_must (refine wpList_load_midH (by kernel_rfl) 32 (.tmp 43) rfl W.heap.size 4 rfl (q.lt.cellsL S1 S2) _ (HR.out _ HB0.out).1 Try.underlying32 rfl hszl ?_)))
              go_ret2
              exact ⟨by rw [hn.out]; rfl, UP.out _ HB4.out⟩
            | true =>
              rw [hz] at HE cze
              obtain ⟨b, hb⟩ := some_of HE.out
              have hv := putP_val hb (i2 hz)
              rw [append_empty] at hv
              have HPV : Hid (putP q = some (headT q)) := hv ▸ hb
              have CZ := Lib.hid cze
              clear cze i1 i2 h0 hsq hb hv hz
              go_enter Try.func13, Try.ntmps13
              go_upto_region 3 with (first
    | (go_at_call 27; ((with_reducible refine (C1.out _).mono ?_); rintro e w9 ⟨rfl, rfl⟩))
    | (go_at_call 27; ((with_reducible refine (C2.out _).mono ?_); rintro e w9 ⟨rfl, rfl⟩))
    | (go_at_call 28; ((with_reducible refine (C3.out _).mono ?_); rintro e w9 ⟨rfl, rfl⟩))
    | (go_at_call 28; ((with_reducible refine (C4.out _).mono ?_); rintro e w9 ⟨rfl, rfl⟩))
    | (go_at_call 30; ((with_reducible refine (CZ.out _ HB0.out).mono ?_); rintro e w4 ⟨rfl, hb⟩; have HB4 := Lib.hid hb; clear hb; obtain ⟨-, c0, c1, c2, c3⟩ := HR.out w4 HB4.out))
    | (with_reducible (show wpList _ _ _ (⟨some _, Op.load _ (Operand.tmp 43), _, _, _, _⟩ :: _) _ _); go_must (refine wpList_load_midH (by kernel_rfl) 32 (.tmp 43) rfl W.heap.size 4 rfl (q.lt.cellsL S1 S2) _ (HR.out _ HB0.out).1 Try.underlying32 rfl hszl ?_)))
              go_cut [4] (fun s4 wx => s4 = .string (headT q) ∧ Hid (Below w4.heap.size w4 wx))
              case first =>
                clear c0 c1 c2 c3
                have HSS : Hid (∀ w', Below w4.heap.size w4 w' → Below w4.heap.size w4 w' ∧ (w'.cell? ⟨W.heap.size, 0, none⟩ = some (.int .i64 q.pf) ∧ w'.cell? ⟨W.heap.size, 1, none⟩ = some (.int .i64 q.pt) ∧ w'.cell? ⟨W.heap.size, 2, none⟩ = some (.int .i64 q.sq) ∧ w'.cell? ⟨W.heap.size, 3, none⟩ = some (.int .i64 q.ak))) := fun w' h => ⟨h, (HR.out w' (acc HB4.out h)).2⟩
                obtain ⟨p1, p2, p3⟩ := HP.out
                go_region_held3 (fun w' => Below w4.heap.size w4 w' ∧ (w'.cell? ⟨W.heap.size, 0, none⟩ = some (.int .i64 q.pf) ∧ w'.cell? ⟨W.heap.size, 1, none⟩ = some (.int .i64 q.pt) ∧ w'.cell? ⟨W.heap.size, 2, none⟩ = some (.int .i64 q.sq) ∧ w'.cell? ⟨W.heap.size, 3, none⟩ = some (.int .i64 q.ak))) ((first | exact HSS.out _ ((Below.refl _ _).drew) | exact keepB HSS.out (by assumption) (by assumption)))
                  (first | (go_at_call 31; (with_reducible refine (Npf.out _).mono ?_); rintro e w9 ⟨rfl, hb9⟩) | (go_at_call 31; (with_reducible refine (Npt.out _).mono ?_); rintro e w9 ⟨rfl, hb9⟩) | (go_at_call 31; (with_reducible refine (Nsq.out _).mono ?_); rintro e w9 ⟨rfl, hb9⟩) | (go_at_call 31; (with_reducible refine (Nak.out _).mono ?_); rintro e w9 ⟨rfl, hb9⟩))
                all_goals
                  go_wp2_with fail
                  go_meet
                  exact ⟨by first | rfl | (rw [← HH.out]; rfl), finB (w := w4) (wb := w4) (Below.refl _ _) (by assumption)⟩
              case rest =>
                obtain ⟨rfl, HC⟩ := hcut
                obtain ⟨wd, rfl⟩ : ∃ wd : World, wd = wc := ⟨_, rfl⟩
                have HBD := Lib.hid (acc HB4.out HC.out)
                clear c0 c1 c2 c3
                obtain ⟨-, c0, c1, c2, c3⟩ := HR.out wd HBD.out
                go_wp2
                go_ret2
                exact ⟨by rw [HPV.out]; rfl, UP.out _ HBD.out⟩
          · obtain ⟨i1, i2⟩ := inP_more_is h0
            have d0 : decide (0 < q.sq) = true := decide_eq_true (by omega)
            have d1 : (q.sq == 0) = false := by rw [beq_eq_false_iff_ne]; exact h0
            rw [i1] at HE
            clear cze
            cases hm : mayB q.lt with
            | false =>
              rw [hm] at HE cle
              have hn : Hid (putP q = none) := none_of HE.out
              have CM := Lib.hid cle
              clear cle i1 i2 h0 hsq
              go_enter Try.func13, Try.ntmps13
              go_wp2_with (first
    | (go_at_call 27; ((with_reducible refine (C1.out _).mono ?_); rintro e w9 ⟨rfl, rfl⟩))
    | (go_at_call 27; ((with_reducible refine (C2.out _).mono ?_); rintro e w9 ⟨rfl, rfl⟩))
    | (go_at_call 28; ((with_reducible refine (C3.out _).mono ?_); rintro e w9 ⟨rfl, rfl⟩))
    | (go_at_call 28; ((with_reducible refine (C4.out _).mono ?_); rintro e w9 ⟨rfl, rfl⟩))
    | (go_at_call 29; ((with_reducible refine (CM.out _ HB0.out).mono ?_); rintro e w4 ⟨rfl, hb⟩; have HB4 := Lib.hid hb; clear hb; obtain ⟨-, c0, c1, c2, c3⟩ := HR.out w4 HB4.out))
    | (with_reducible (show wpList _ _ _ (⟨some _, Op.load _ (Operand.tmp 32), _, _, _, _⟩ :: _) _ _); go_must (refine wpList_load_midH (by kernel_rfl) 32 (.tmp 32) rfl W.heap.size 4 rfl (q.lt.cellsL S1 S2) _ (HR.out _ HB0.out).1 Try.underlying32 rfl hszl ?_)))
              go_ret2
              exact ⟨by rw [hn.out]; rfl, UP.out _ HB4.out⟩
            | true =>
              obtain ⟨t, ht⟩ := some_of ((putL_may q.lt).trans hm)
              rw [hm] at HE cle
              obtain ⟨b, hb⟩ := some_of HE.out
              have hv := putP_val hb (i2.trans ht)
              have HPV : Hid (putP q = some (headT q ++ t)) := hv ▸ hb
              have CM := Lib.hid cle
              have CP := Lib.hid (fun w hw => CPU.out w hw t ht)
              have hts := inP_le q
              rw [i2.trans ht] at hts
              have hts : t.size ≤ 435456 := hts
              have hh := headT_sz q
              have pz : ¬ (9223372036854775807 < (headT q).size + t.size) := by omega
              clear cle i1 i2 h0 hsq hb hv hm ht hts hh CPU
              go_enter Try.func13, Try.ntmps13
              go_upto_region 3 with (first
    | (go_at_call 27; ((with_reducible refine (C1.out _).mono ?_); rintro e w9 ⟨rfl, rfl⟩))
    | (go_at_call 27; ((with_reducible refine (C2.out _).mono ?_); rintro e w9 ⟨rfl, rfl⟩))
    | (go_at_call 28; ((with_reducible refine (C3.out _).mono ?_); rintro e w9 ⟨rfl, rfl⟩))
    | (go_at_call 28; ((with_reducible refine (C4.out _).mono ?_); rintro e w9 ⟨rfl, rfl⟩))
    | (go_at_call 29; ((with_reducible refine (CM.out _ HB0.out).mono ?_); rintro e w4 ⟨rfl, hb⟩; have HB4 := Lib.hid hb; clear hb; obtain ⟨-, c0, c1, c2, c3⟩ := HR.out w4 HB4.out))
    | (with_reducible (show wpList _ _ _ (⟨some _, Op.load _ (Operand.tmp 32), _, _, _, _⟩ :: _) _ _); go_must (refine wpList_load_midH (by kernel_rfl) 32 (.tmp 32) rfl W.heap.size 4 rfl (q.lt.cellsL S1 S2) _ (HR.out _ HB0.out).1 Try.underlying32 rfl hszl ?_)))
              go_cut [4] (fun s4 wx => s4 = .string (headT q) ∧ Hid (Below w4.heap.size w4 wx))
              case first =>
                clear c0 c1 c2 c3
                have HSS : Hid (∀ w', Below w4.heap.size w4 w' → Below w4.heap.size w4 w' ∧ (w'.cell? ⟨W.heap.size, 0, none⟩ = some (.int .i64 q.pf) ∧ w'.cell? ⟨W.heap.size, 1, none⟩ = some (.int .i64 q.pt) ∧ w'.cell? ⟨W.heap.size, 2, none⟩ = some (.int .i64 q.sq) ∧ w'.cell? ⟨W.heap.size, 3, none⟩ = some (.int .i64 q.ak))) := fun w' h => ⟨h, (HR.out w' (acc HB4.out h)).2⟩
                obtain ⟨p1, p2, p3⟩ := HP.out
                go_region_held3 (fun w' => Below w4.heap.size w4 w' ∧ (w'.cell? ⟨W.heap.size, 0, none⟩ = some (.int .i64 q.pf) ∧ w'.cell? ⟨W.heap.size, 1, none⟩ = some (.int .i64 q.pt) ∧ w'.cell? ⟨W.heap.size, 2, none⟩ = some (.int .i64 q.sq) ∧ w'.cell? ⟨W.heap.size, 3, none⟩ = some (.int .i64 q.ak))) ((first | exact HSS.out _ ((Below.refl _ _).drew) | exact keepB HSS.out (by assumption) (by assumption)))
                  (first | (go_at_call 31; (with_reducible refine (Npf.out _).mono ?_); rintro e w9 ⟨rfl, hb9⟩) | (go_at_call 31; (with_reducible refine (Npt.out _).mono ?_); rintro e w9 ⟨rfl, hb9⟩) | (go_at_call 31; (with_reducible refine (Nsq.out _).mono ?_); rintro e w9 ⟨rfl, hb9⟩) | (go_at_call 31; (with_reducible refine (Nak.out _).mono ?_); rintro e w9 ⟨rfl, hb9⟩))
                all_goals
                  go_wp2_with fail
                  go_meet
                  exact ⟨by first | rfl | (rw [← HH.out]; rfl), finB (w := w4) (wb := w4) (Below.refl _ _) (by assumption)⟩
              case rest =>
                obtain ⟨rfl, HC⟩ := hcut
                obtain ⟨wd, rfl⟩ : ∃ wd : World, wd = wc := ⟨_, rfl⟩
                have HBD := Lib.hid (acc HB4.out HC.out)
                clear c0 c1 c2 c3
                obtain ⟨-, c0, c1, c2, c3⟩ := HR.out wd HBD.out
                go_wp2_with (first
                  | (with_reducible (show wpList _ _ _ (⟨some _, Op.load _ (Operand.tmp 68), _, _, _, _⟩ :: _) _ _); go_must (refine wpList_load_mid rfl 32 (.tmp 68) rfl W.heap.size 4 rfl (q.lt.cellsL S1 S2) _ (HR.out _ HBD.out).1 Try.underlying32 rfl hszl ?_))
                  | (go_at_call 32; ((with_reducible refine (CP.out _ HBD.out).mono ?_); rintro e w8 ⟨rfl, hb⟩; have HB8 := Lib.hid (acc HBD.out hb); clear hb)))
                go_ret2
                exact ⟨by rw [HPV.out]; rfl, UP.out _ HB8.out⟩
end Go.Proofs.Ytbnmddopgbhapaa
namespace Go.Proofs.Ytbnmddopgbhapaa
open Go.RowKit

/-- an array of cells with some of them set -/
def setM : Array Value → Nat → List Value → Array Value
  | cs, _, [] => cs
  | cs, o, v :: r => setM (cs.setIfInBounds o v) (o + 1) r
theorem heap_sets {b : Nat} {T : TypeId} : ∀ (vs : List Value) (o : Nat) (w : World) (cs : Array Value), w.heap[b]? = some (.cells cs T) → (w.setCells b o vs).heap[b]? = some (.cells (setM cs o vs) T)
  | [], _, _, _, h => h
  | v :: r, o, _, _, h => heap_sets r (o + 1) _ _ (heap_set v h)
theorem touch_sets (b : Nat) : ∀ (vs : List Value) (o : Nat) (w : World), Touch [b] w (w.setCells b o vs)
  | [], _, w => Touch.refl _ w
  | v :: r, o, w => ((Touch.refl [b] w).set (.inl (by simp)) v).trans (touch_sets b r (o + 1) _) (fun x hx => .inl hx)
theorem there_row {w : World} {b o n : Nat} {cs : Array Value} {T : TypeId} (h : w.heap[b]? = some (.cells cs T)) (hn : o + n ≤ cs.size) : w.there b o n := fun j hj =>
  ⟨by rw [Lib.cell_of_heap h, Array.getElem?_eq_getElem (by omega)]; rfl, frozen_at h⟩
theorem OwnAt.touch {K : Nat} {w w1 : World} {S : Value} {l : List Item} {F : List Nat} (h : OwnAt K w S l) (ht : Touch F w w1) (hF : ∀ x, x ∈ F → x < K) : OwnAt K w1 S l := by
  obtain ⟨b, hk, h⟩ := h
  exact ⟨b, hk, ht.row h (fun q hq hm => by have := (h.lt q hq).1; have := hF q hm; omega)⟩
/-- four numbers ahead -/
def num4 (b : ByteArray) (v0 v1 v2 v3 : Nat) (o : Option ByteArray) : Prop := readR K4 (some b) = ([nv (v0 : Nat), nv (v1 : Nat), nv (v2 : Nat), nv (v3 : Nat)], o)
theorem getP_read {b : ByteArray} {v0 v1 v2 v3 : Nat} {o : Option ByteArray} {m : PV} (h4 : num4 b v0 v1 v2 v3 o) (h : getP b = some m) :
    ∃ r l, o = some r ∧ m = ⟨(v0 : Nat), (v1 : Nat), (v2 : Nat), (v3 : Nat), l⟩ ∧ putP m = some b ∧ (v2 = 0 → r.size = 0 ∧ l = ZL) ∧ (v2 ≠ 0 → getL r = some l) := by
  have hp := (getP_put h).1
  unfold getP at h
  cases g : getF K4 b with
  | none => rw [g] at h; cases h
  | some p =>
    obtain ⟨xs, r⟩ := p
    rw [g] at h
    simp only at h
    have hr := readR_yes K4 b xs r g
    rw [h4] at hr
    injection hr with hx ho
    subst hx ho
    by_cases h0 : v2 = 0
    · have e0 : ((([nv (v0 : Nat), nv (v1 : Nat), nv (v2 : Nat), nv (v3 : Nat)] : List FV).getD 2 (nv 0)).n = 0) := by show ((v2 : Nat) : Int) = 0; omega
      rw [if_pos e0] at h
      by_cases hz : r.size = 0
      · rw [if_pos hz] at h
        exact ⟨r, ZL, rfl, (Option.some.inj h).symm, hp, fun _ => ⟨hz, rfl⟩, fun hh => absurd h0 hh⟩
      · rw [if_neg hz] at h; cases h
    · have e0 : ¬ ((([nv (v0 : Nat), nv (v1 : Nat), nv (v2 : Nat), nv (v3 : Nat)] : List FV).getD 2 (nv 0)).n = 0) := by show ¬ ((v2 : Nat) : Int) = 0; omega
      rw [if_neg e0] at h
      cases g2 : getF LK r with
      | none => rw [g2] at h; cases h
      | some p2 =>
        obtain ⟨ys, r2⟩ := p2
        rw [g2] at h
        simp only at h
        by_cases hz : r2.size = 0
        · rw [if_pos hz] at h
          refine ⟨r, LV.of ys, rfl, (Option.some.inj h).symm, hp, fun hh => absurd hh h0, fun _ => ?_⟩
          unfold getL
          rw [g2]
          simp only
          rw [if_pos hz]
        · rw [if_neg hz] at h; cases h
theorem getP_bad {b : ByteArray} {v0 v1 v2 v3 : Nat} {o : Option ByteArray} (h4 : num4 b v0 v1 v2 v3 o) (h : ∀ r l, o = some r → (v2 = 0 → r.size = 0 ∧ l = ZL) → (v2 ≠ 0 → getL r = some l) → putP ⟨(v0 : Nat), (v1 : Nat), (v2 : Nat), (v3 : Nat), l⟩ ≠ some b) : getP b = none := by
  cases g : getP b with
  | none => rfl
  | some m =>
    obtain ⟨r, l, e1, rfl, e3, e4, e5⟩ := getP_read h4 g
    exact absurd e3 (h r l e1 e4 e5)
theorem zl_fine : ZL.Fine where
  kB := ⟨by decide, by decide⟩
  fB := ⟨by decide, by decide⟩
  tB := ⟨by decide, by decide⟩
  iB := ⟨by decide, by decide⟩
  opB := ⟨by decide, by decide⟩
  keyB := by decide
  valB := by decide
  ktoB := by decide
  mostB := ⟨by decide, by decide⟩
  erB := ⟨by decide, by decide⟩
  tvB := by decide
  tiB := ⟨by decide, fun x hx => by cases hx⟩
  nxB := by decide
  tnB := ⟨by decide, by decide⟩
  afB := by decide
  auB := by decide
  epB := ⟨by decide, by decide⟩
  liB := ⟨by decide, fun x hx => by cases hx⟩
  nB := ⟨by decide, by decide⟩
  ndB := ⟨by decide, by decide⟩
/-- the reader on its way -/
def RWay (g : Nat) (W w : World) (o : Option ByteArray) : Prop := RfO w g o ∧ Gr g W w ∧ sizeO o ≤ 9223372036854775807
theorem num_rway (g : Nat) (W w : World) (o : Option ByteArray) (h : RWay g W w o) :
    Calls Try.prog 34 #[.pointer (some ⟨g, 0, none⟩)] w fun e w' => ∃ (v : Nat) (o' : Option ByteArray), numO o 2 = v ∧ restO o 2 = o' ∧ v ≤ 65535 ∧ e = .returned (.int .i64 (v : Nat)) ∧ RWay g W w' o' :=
  (fnum_any g o w h.1 h.2.2).mono fun _ _ ⟨h1, h2, h3⟩ => ⟨_, _, rfl, rfl, by have := numO_lt o 2; omega, h1, h2, h.2.1.trans h3, Nat.le_trans (sizeO_rest _ _) h.2.2⟩
/-- what the document's GetPacket tells -/
def DPGet (W : World) (b : ByteArray) (e : Ending) (w' : World) : Prop :=
  Below W.heap.size W w' ∧ ((getP b = none ∧ e = .returned (.tuple #[.agg PZ, .bool false])) ∨
    ∃ q S1 S2, getP b = some q ∧ e = .returned (.tuple #[.agg (q.cells S1 S2), .bool true]) ∧ OwnAt W.heap.size w' S1 q.lt.ti ∧ OwnAt W.heap.size w' S2 q.lt.li)
set_option maxRecDepth 20000 in
set_option maxHeartbeats 16000000 in
theorem dpget_any (b : ByteArray) (W : World) (hs : b.size ≤ 9223372036854775807) : Calls Try.prog 15 #[.string b] W (DPGet W b) := by
  have hZ : ((W.alloc (.cells PZ 34)).alloc (.cells #[.string b, .bool false] 69)).heap.size = W.heap.size + 1 + 1 := by simp
  have hr0 : ((W.alloc (.cells PZ 34)).alloc (.cells #[.string b, .bool false] 69)).heap[W.heap.size]? = some (.cells PZ 34) := (Lib.alloc_old _ _ _ (by simp)).trans (heap_alloc_new W _)
  have hrq : Rq ((W.alloc (.cells PZ 34)).alloc (.cells #[.string b, .bool false] 69)) (W.heap.size + 1) b false := by
    have := Rq.new (W.alloc (.cells PZ 34)) b false 69
    simpa using this
  have BW1 : Below W.heap.size W ((W.alloc (.cells PZ 34)).alloc (.cells #[.string b, .bool false] 69)) := ((Below.refl _ _).alloc (Nat.le_refl _) _).alloc (by simp) _
  have H0 : Hid (((W.alloc (.cells PZ 34)).alloc (.cells #[.string b, .bool false] 69)).heap.size = W.heap.size + 1 + 1 ∧ ((W.alloc (.cells PZ 34)).alloc (.cells #[.string b, .bool false] 69)).heap[W.heap.size]? = some (.cells PZ 34) ∧ Below W.heap.size W ((W.alloc (.cells PZ 34)).alloc (.cells #[.string b, .bool false] 69))) := ⟨hZ, hr0, BW1⟩
  have R0 : Hid (RWay (W.heap.size + 1) ((W.alloc (.cells PZ 34)).alloc (.cells #[.string b, .bool false] 69)) ((W.alloc (.cells PZ 34)).alloc (.cells #[.string b, .bool false] 69)) (some b)) := ⟨hrq, Gr.refl _ _, hs⟩
  have CN := Lib.hid num_rway
  have hszp : (Try.prog.info? 34).map (·.size) = some 25 := by kernel_rfl
  have hszl : (Try.prog.info? 32).map (·.size) = some 21 := by kernel_rfl
  clear hs hZ hr0 hrq BW1
  go_enter Try.func15, Try.ntmps15
  go_upto_region 3 with (first
    | (go_at_call 34; ((with_reducible refine (CN.out _ _ _ _ R0.out).mono ?_); rintro e w1 ⟨v0, o1, h0, g0, k0, rfl, hr⟩; have R1 := Lib.hid hr; have H0v := Lib.hid h0; have H0o := Lib.hid g0; have K0v := Lib.hid k0; clear hr h0 g0 k0))
    | (go_at_call 34; ((with_reducible refine (CN.out _ _ _ _ R1.out).mono ?_); rintro e w2 ⟨v1, o2, h1, g1, k1, rfl, hr⟩; have R2 := Lib.hid hr; have H1v := Lib.hid h1; have H1o := Lib.hid g1; have K1v := Lib.hid k1; clear hr h1 g1 k1))
    | (go_at_call 34; ((with_reducible refine (CN.out _ _ _ _ R2.out).mono ?_); rintro e w3 ⟨v2, o3, h2, g2, k2, rfl, hr⟩; have R3 := Lib.hid hr; have H2v := Lib.hid h2; have H2o := Lib.hid g2; have K2v := Lib.hid k2; clear hr h2 g2 k2))
    | (go_at_call 34; ((with_reducible refine (CN.out _ _ _ _ R3.out).mono ?_); rintro e w4 ⟨v3, o4, h3, g3, k3, rfl, hr⟩; have R4 := Lib.hid hr; have H3v := Lib.hid h3; have H3o := Lib.hid g3; have K3v := Lib.hid k3; clear hr h3 g3 k3; have hone : (#[.int .i64 (v0 : Nat), .int .i64 (v1 : Nat), .int .i64 (v2 : Nat), .int .i64 (v3 : Nat), .int .i64 0, .int .i64 0, .int .i64 0, .int .i64 0, .int .i64 0, .string ⟨#[]⟩, .string ⟨#[]⟩, .string ⟨#[]⟩, .int .i64 0, .int .i64 0, .string ⟨#[]⟩, .slice none 0 0, .bool false, .string ⟨#[]⟩, .int .i64 0, .int .u64 0, .int .u64 0, .int .i64 0, .slice none 0 0, .int .i64 0, .int .i64 0] : Array Value).all (·.oneCell') = true := (by first | kernel_rfl | simp [Value.oneCell']); have hold : PZ.size = (#[.int .i64 (v0 : Nat), .int .i64 (v1 : Nat), .int .i64 (v2 : Nat), .int .i64 (v3 : Nat), .int .i64 0, .int .i64 0, .int .i64 0, .int .i64 0, .int .i64 0, .string ⟨#[]⟩, .string ⟨#[]⟩, .string ⟨#[]⟩, .int .i64 0, .int .i64 0, .string ⟨#[]⟩, .slice none 0 0, .bool false, .string ⟨#[]⟩, .int .i64 0, .int .u64 0, .int .u64 0, .int .i64 0, .slice none 0 0, .int .i64 0, .int .i64 0] : Array Value).size := rfl; have hszC : (Try.prog.info? 34).map (·.size) = some (#[.int .i64 (v0 : Nat), .int .i64 (v1 : Nat), .int .i64 (v2 : Nat), .int .i64 (v3 : Nat), .int .i64 0, .int .i64 0, .int .i64 0, .int .i64 0, .int .i64 0, .string ⟨#[]⟩, .string ⟨#[]⟩, .string ⟨#[]⟩, .int .i64 0, .int .i64 0, .string ⟨#[]⟩, .slice none 0 0, .bool false, .string ⟨#[]⟩, .int .i64 0, .int .u64 0, .int .u64 0, .int .i64 0, .slice none 0 0, .int .i64 0, .int .i64 0] : Array Value).size := hszp))
    | (with_reducible (show wpList _ _ _ (⟨none, Op.store _ (Operand.tmp 5) _, _, _, _, _⟩ :: _) _ _); go_must (refine wpList_store_row rfl 34 (.tmp 5) (.tmp 21) rfl w4.heap.size #[.int .i64 (v0 : Nat), .int .i64 (v1 : Nat), .int .i64 (v2 : Nat), .int .i64 (v3 : Nat), .int .i64 0, .int .i64 0, .int .i64 0, .int .i64 0, .int .i64 0, .string ⟨#[]⟩, .string ⟨#[]⟩, .string ⟨#[]⟩, .int .i64 0, .int .i64 0, .string ⟨#[]⟩, .slice none 0 0, .bool false, .string ⟨#[]⟩, .int .i64 0, .int .u64 0, .int .u64 0, .int .i64 0, .slice none 0 0, .int .i64 0, .int .i64 0] rfl rfl 34 PZ (heap_alloc_new w4 _) hszC hold hone ?_)))
  have H4 : Hid (num4 b v0 v1 v2 v3 o4) := readR_cons (step_num H0v.out H0o.out) (readR_cons (step_num H1v.out H1o.out) (readR_cons (step_num H2v.out H2o.out) (readR_cons (step_num H3v.out H3o.out) rfl)))
  have z4 : W.heap.size + 1 + 1 ≤ w4.heap.size := by have := R4.out.2.1.size; have := H0.out.1; omega
  have hq0 : (#[.int .i64 (v0 : Nat), .int .i64 (v1 : Nat), .int .i64 (v2 : Nat), .int .i64 (v3 : Nat), .int .i64 0, .int .i64 0, .int .i64 0, .int .i64 0, .int .i64 0, .string ⟨#[]⟩, .string ⟨#[]⟩, .string ⟨#[]⟩, .int .i64 0, .int .i64 0, .string ⟨#[]⟩, .slice none 0 0, .bool false, .string ⟨#[]⟩, .int .i64 0, .int .u64 0, .int .u64 0, .int .i64 0, .slice none 0 0, .int .i64 0, .int .i64 0] : Array Value) = (PV.mk (v0 : Nat) (v1 : Nat) (v2 : Nat) (v3 : Nat) ZL).cells (.slice none 0 0) (.slice none 0 0) := rfl
  have hres5 : ((w4.alloc (.cells PZ 34)).setRow w4.heap.size #[.int .i64 (v0 : Nat), .int .i64 (v1 : Nat), .int .i64 (v2 : Nat), .int .i64 (v3 : Nat), .int .i64 0, .int .i64 0, .int .i64 0, .int .i64 0, .int .i64 0, .string ⟨#[]⟩, .string ⟨#[]⟩, .string ⟨#[]⟩, .int .i64 0, .int .i64 0, .string ⟨#[]⟩, .slice none 0 0, .bool false, .string ⟨#[]⟩, .int .i64 0, .int .u64 0, .int .u64 0, .int .i64 0, .slice none 0 0, .int .i64 0, .int .i64 0]).heap[W.heap.size]? = some (.cells PZ 34) := by
    have h1 := (R4.out.2.1.block W.heap.size (by have := H0.out.1; omega) (fun e => by have := Option.some.inj e; omega)).trans H0.out.2.1
    exact ((setRow_touch _ _ _).block _ (by have := lt_of_heap h1; simp; omega) (by simp only [List.mem_cons, List.not_mem_nil, or_false]; omega)).trans ((Lib.alloc_old _ _ _ (lt_of_heap h1)).trans h1)
  have hrow5 : ((w4.alloc (.cells PZ 34)).setRow w4.heap.size #[.int .i64 (v0 : Nat), .int .i64 (v1 : Nat), .int .i64 (v2 : Nat), .int .i64 (v3 : Nat), .int .i64 0, .int .i64 0, .int .i64 0, .int .i64 0, .int .i64 0, .string ⟨#[]⟩, .string ⟨#[]⟩, .string ⟨#[]⟩, .int .i64 0, .int .i64 0, .string ⟨#[]⟩, .slice none 0 0, .bool false, .string ⟨#[]⟩, .int .i64 0, .int .u64 0, .int .u64 0, .int .i64 0, .slice none 0 0, .int .i64 0, .int .i64 0]).heap[w4.heap.size]? = some (.cells ((PV.mk (v0 : Nat) (v1 : Nat) (v2 : Nat) (v3 : Nat) ZL).cells (.slice none 0 0) (.slice none 0 0)) 34) := setRow_at _ (heap_alloc_new w4 _)
  have hrd5 : RfO ((w4.alloc (.cells PZ 34)).setRow w4.heap.size #[.int .i64 (v0 : Nat), .int .i64 (v1 : Nat), .int .i64 (v2 : Nat), .int .i64 (v3 : Nat), .int .i64 0, .int .i64 0, .int .i64 0, .int .i64 0, .int .i64 0, .string ⟨#[]⟩, .string ⟨#[]⟩, .string ⟨#[]⟩, .int .i64 0, .int .i64 0, .string ⟨#[]⟩, .slice none 0 0, .bool false, .string ⟨#[]⟩, .int .i64 0, .int .u64 0, .int .u64 0, .int .i64 0, .slice none 0 0, .int .i64 0, .int .i64 0]) (W.heap.size + 1) o4 := (R4.out.1.alloc _).touch (setRow_touch _ _ _) (by simp only [List.mem_cons, List.not_mem_nil, or_false]; omega)
  have b45 : Below w4.heap.size w4 ((w4.alloc (.cells PZ 34)).setRow w4.heap.size #[.int .i64 (v0 : Nat), .int .i64 (v1 : Nat), .int .i64 (v2 : Nat), .int .i64 (v3 : Nat), .int .i64 0, .int .i64 0, .int .i64 0, .int .i64 0, .int .i64 0, .string ⟨#[]⟩, .string ⟨#[]⟩, .string ⟨#[]⟩, .int .i64 0, .int .i64 0, .string ⟨#[]⟩, .slice none 0 0, .bool false, .string ⟨#[]⟩, .int .i64 0, .int .u64 0, .int .u64 0, .int .i64 0, .slice none 0 0, .int .i64 0, .int .i64 0]) := ((Below.refl _ _).alloc (Nat.le_refl _) _).trans (below_setRow _ (Nat.le_refl _))
  have B5 : Hid (Below W.heap.size W ((w4.alloc (.cells PZ 34)).setRow w4.heap.size #[.int .i64 (v0 : Nat), .int .i64 (v1 : Nat), .int .i64 (v2 : Nat), .int .i64 (v3 : Nat), .int .i64 0, .int .i64 0, .int .i64 0, .int .i64 0, .int .i64 0, .string ⟨#[]⟩, .string ⟨#[]⟩, .string ⟨#[]⟩, .int .i64 0, .int .i64 0, .string ⟨#[]⟩, .slice none 0 0, .bool false, .string ⟨#[]⟩, .int .i64 0, .int .u64 0, .int .u64 0, .int .i64 0, .slice none 0 0, .int .i64 0, .int .i64 0])) := (H0.out.2.2.trans (R4.out.2.1.toBelow (by omega) (by have := H0.out.1; omega))).trans (b45.mono (by omega))
  have S5 : Hid (sizeO o4 ≤ 9223372036854775807) := R4.out.2.2
  obtain ⟨P, hP⟩ : ∃ P, w4.heap.size = P := ⟨_, rfl⟩
  obtain ⟨w5, hw5⟩ : ∃ w5, ((w4.alloc (.cells PZ 34)).setRow w4.heap.size #[.int .i64 (v0 : Nat), .int .i64 (v1 : Nat), .int .i64 (v2 : Nat), .int .i64 (v3 : Nat), .int .i64 0, .int .i64 0, .int .i64 0, .int .i64 0, .int .i64 0, .string ⟨#[]⟩, .string ⟨#[]⟩, .string ⟨#[]⟩, .int .i64 0, .int .i64 0, .string ⟨#[]⟩, .slice none 0 0, .bool false, .string ⟨#[]⟩, .int .i64 0, .int .u64 0, .int .u64 0, .int .i64 0, .slice none 0 0, .int .i64 0, .int .i64 0]) = w5 := ⟨_, rfl⟩
  rw [hw5] at hres5 hrow5 hrd5 B5 ⊢
  simp only [hP] at hrow5 z4 ⊢
  have ZP := Lib.hid z4
  have FQ : Hid (∀ l : LV, l.Fine → (PV.mk (v0 : Nat) (v1 : Nat) (v2 : Nat) (v3 : Nat) l).Fine) := fun l hl => by
    have k0 := K0v.out
    have k1 := K1v.out
    have k2 := K2v.out
    have k3 := K3v.out
    exact { pfB := ⟨by show _ ≤ ((v0 : Nat) : Int); omega, by show ((v0 : Nat) : Int) ≤ _; omega⟩, ptB := ⟨by show _ ≤ ((v1 : Nat) : Int); omega, by show ((v1 : Nat) : Int) ≤ _; omega⟩, sqB := ⟨by show _ ≤ ((v2 : Nat) : Int); omega, by show ((v2 : Nat) : Int) ≤ _; omega⟩, akB := ⟨by show _ ≤ ((v3 : Nat) : Int); omega, by show ((v3 : Nat) : Int) ≤ _; omega⟩, ltF := hl }
  have hszZ : (Try.prog.info? 34).map (·.size) = some PZ.size := hszp
  have honeZ : PZ.all (·.oneCell') = true := by first | decide | simp [PZ, Value.oneCell']
  clear hone hold hszC hq0 b45 z4 hP hw5 R0 R1 R2 R3 R4 H0 H0v H0o H1v H1o H2v H2o H3v H3o K0v K1v K2v K3v CN
  cases o4 with
  | none =>
    have N0 : Hid (getP b = none) := getP_bad H4.out (fun r l h => by cases h)
    obtain ⟨s, q1, q2, q3, q4, q5⟩ := hrd5
    clear hrow5
    go_wp2_with (with_reducible (show wpList _ _ _ (⟨none, Op.store _ (Operand.tmp 2) _, _, _, _, _⟩ :: _) _ _); go_must (refine wpList_store_row rfl 34 (.tmp 2) (.tmp 26) rfl W.heap.size PZ rfl rfl 34 PZ hres5 hszZ rfl honeZ ?_))
    refine bodyPost_ret (results_row_tmp rfl _ _ W.heap.size PZ (.bool false) rfl rfl (loadVar_packet _ _ _ rfl (setRow_at _ hres5))) rfl ?_
    exact ⟨B5.out.trans (below_setRow _ (Nat.le_refl _)), .inl ⟨N0.out, rfl⟩⟩
  | some r =>
    obtain ⟨q1, q2, q3, q4, q5⟩ := hrd5
    have p2 : w5.cell? ⟨P, 2, none⟩ = some (.int .i64 ((v2 : Nat) : Int)) := cell_at (o := 2) hrow5 rfl
    by_cases h0 : v2 = 0
    · have d0 : decide (0 < v2) = false := decide_eq_false (by omega)
      by_cases hr : r = ⟨#[]⟩
      · skip
        have d2 : (r.toList == ([] : List UInt8)) = true := by rw [hr, Lib.toList_data]; rfl
        have d3 : r.toList.isEmpty = true := by rw [hr, Lib.toList_data]; rfl
        have HG1 : Hid (putP (PV.mk (v0 : Nat) (v1 : Nat) (v2 : Nat) (v3 : Nat) ZL) = some b → getP b = some (PV.mk (v0 : Nat) (v1 : Nat) (v2 : Nat) (v3 : Nat) ZL)) := fun h => by
          have := getP_some (q := (PV.mk (v0 : Nat) (v1 : Nat) (v2 : Nat) (v3 : Nat) ZL)) zl_fine.afB zl_fine.auB h
          rw [if_pos (show ((v2 : Nat) : Int) = 0 by omega)] at this
          exact this
        have HG2 : Hid (putP (PV.mk (v0 : Nat) (v1 : Nat) (v2 : Nat) (v3 : Nat) ZL) ≠ some b → getP b = none) := fun h => getP_bad H4.out (fun r' l _ e2 _ => by
          obtain ⟨-, rfl⟩ := e2 h0
          exact h)
        have QF := FQ.out ZL zl_fine
        obtain ⟨w7, rfl⟩ : ∃ w7, w7 = w5 := ⟨_, rfl⟩
        have hres7 := hres5
        have hrow7 := hrow5
        have B7 := B5
        have own1 : OwnAt (P + 1) w7 (.slice none 0 0) (PV.mk (v0 : Nat) (v1 : Nat) (v2 : Nat) (v3 : Nat) ZL).lt.ti := ⟨P + 1, Nat.le_refl _, World.ownsRow_nil _ _ _ _⟩
        have own2 : OwnAt (P + 1) w7 (.slice none 0 0) (PV.mk (v0 : Nat) (v1 : Nat) (v2 : Nat) (v3 : Nat) ZL).lt.li := ⟨P + 1, Nat.le_refl _, World.ownsRow_nil _ _ _ _⟩
        clear hres5 hrow5 B5 H4 h0 hr FQ
        go_upto_region 12 with fail
        clear p2 q1 q2 q3 q4 q5 d0 d2 d3
        have hszQ : (Try.prog.info? 34).map (·.size) = some ((PV.mk (v0 : Nat) (v1 : Nat) (v2 : Nat) (v3 : Nat) ZL).cells (.slice none 0 0) (.slice none 0 0)).size := hszp
        have cp := dpput_any (PV.mk (v0 : Nat) (v1 : Nat) (v2 : Nat) (v3 : Nat) ZL) (.slice none 0 0) (.slice none 0 0) w7 QF own1.slAt own2.slAt
        unfold PutPPost at cp
        cases hp : putP (PV.mk (v0 : Nat) (v1 : Nat) (v2 : Nat) (v3 : Nat) ZL) with
        | none =>
          rw [hp] at cp
          have CP : Hid (Calls Try.prog 13 #[.agg ((PV.mk (v0 : Nat) (v1 : Nat) (v2 : Nat) (v3 : Nat) ZL).cells (.slice none 0 0) (.slice none 0 0))] w7 fun e w' => e = .returned (.tuple #[.string ⟨#[]⟩, .bool false]) ∧ Below w7.heap.size w7 w') := cp
          have HN : Hid (getP b = none) := HG2.out (by rw [hp]; simp)
          clear cp hp own1 own2 QF
          go_wp2_with (first
            | (go_at_call 13; ((with_reducible refine (CP.out).mono ?_); rintro e w8 ⟨rfl, hb⟩; have hres8 := (hb.block _ (lt_of_heap hres7)).trans hres7; have hrow8 := (hb.block _ (lt_of_heap hrow7)).trans hrow7; have B8 := Lib.hid (acc B7.out hb); have HB8 := Lib.hid hb; clear hb))
            | (with_reducible (show wpList _ _ _ (⟨none, Op.store _ (Operand.tmp 2) _, _, _, _, _⟩ :: _) _ _); go_must (refine wpList_store_row rfl 34 (.tmp 2) (.tmp 61) rfl W.heap.size PZ rfl rfl 34 PZ hres8 hszZ rfl honeZ ?_))
            | (with_reducible (show wpList _ _ _ (⟨some _, Op.load _ (Operand.tmp 5), _, _, _, _⟩ :: _) _ _); go_must (refine wpList_load_row rfl 34 (.tmp 5) rfl P rfl 34 ((PV.mk (v0 : Nat) (v1 : Nat) (v2 : Nat) (v3 : Nat) ZL).cells (.slice none 0 0) (.slice none 0 0)) (0, 0) _ hrow7 Try.underlying34 rfl hszQ ?_)))
          refine bodyPost_ret (results_row_tmp rfl _ _ W.heap.size PZ (.bool false) rfl rfl (loadVar_packet _ _ _ rfl (setRow_at _ hres8))) rfl ?_
          exact ⟨B8.out.trans (below_setRow _ (Nat.le_refl _)), .inl ⟨HN.out, rfl⟩⟩
        | some t =>
          rw [hp] at cp
          have CP : Hid (Calls Try.prog 13 #[.agg ((PV.mk (v0 : Nat) (v1 : Nat) (v2 : Nat) (v3 : Nat) ZL).cells (.slice none 0 0) (.slice none 0 0))] w7 fun e w' => e = .returned (.tuple #[.string t, .bool true]) ∧ Below w7.heap.size w7 w') := cp
          by_cases htb : t = b
          · subst htb
            have HY : Hid (getP t = some (PV.mk (v0 : Nat) (v1 : Nat) (v2 : Nat) (v3 : Nat) ZL)) := HG1.out hp
            have O1 := Lib.hid own1
            have O2 := Lib.hid own2
            have hone : ((PV.mk (v0 : Nat) (v1 : Nat) (v2 : Nat) (v3 : Nat) ZL).cells (.slice none 0 0) (.slice none 0 0)).all (·.oneCell') = true := by first | kernel_rfl | simp [PV.cells, Value.oneCell']
            have hold : PZ.size = ((PV.mk (v0 : Nat) (v1 : Nat) (v2 : Nat) (v3 : Nat) ZL).cells (.slice none 0 0) (.slice none 0 0)).size := rfl
            clear cp hp own1 own2 QF
            go_wp2_with (first
              | (go_at_call 13; ((with_reducible refine (CP.out).mono ?_); rintro e w8 ⟨rfl, hb⟩; have hres8 := (hb.block _ (lt_of_heap hres7)).trans hres7; have hrow8 := (hb.block _ (lt_of_heap hrow7)).trans hrow7; have B8 := Lib.hid (acc B7.out hb); have HB8 := Lib.hid hb; clear hb))
              | (with_reducible (show wpList _ _ _ (⟨none, Op.store _ (Operand.tmp 2) _, _, _, _, _⟩ :: _) _ _); go_must (refine wpList_store_row rfl 34 (.tmp 2) (.tmp 62) rfl W.heap.size ((PV.mk (v0 : Nat) (v1 : Nat) (v2 : Nat) (v3 : Nat) ZL).cells (.slice none 0 0) (.slice none 0 0)) rfl rfl 34 PZ hres8 hszQ hold hone ?_))
              | (refine wpList_load_row rfl 34 (.tmp 5) rfl P rfl 34 ((PV.mk (v0 : Nat) (v1 : Nat) (v2 : Nat) (v3 : Nat) ZL).cells (.slice none 0 0) (.slice none 0 0)) (0, 0) _ hrow7 Try.underlying34 rfl hszQ ?_)
              | (refine wpList_load_row rfl 34 (.tmp 5) rfl P rfl 34 ((PV.mk (v0 : Nat) (v1 : Nat) (v2 : Nat) (v3 : Nat) ZL).cells (.slice none 0 0) (.slice none 0 0)) (0, 0) _ hrow8 Try.underlying34 rfl hszQ ?_))
            refine bodyPost_ret (results_row_tmp rfl _ _ W.heap.size ((PV.mk (v0 : Nat) (v1 : Nat) (v2 : Nat) (v3 : Nat) ZL).cells (.slice none 0 0) (.slice none 0 0)) (.bool true) rfl rfl (loadVar_packet _ _ _ rfl (setRow_at _ hres8))) rfl ?_
            exact ⟨B8.out.trans (below_setRow _ (Nat.le_refl _)), .inr ⟨(PV.mk (v0 : Nat) (v1 : Nat) (v2 : Nat) (v3 : Nat) ZL), _, _, HY.out, rfl, ((O1.out.below HB8.out).row (by have := ZP.out; omega) _).mono (by have := ZP.out; omega), ((O2.out.below HB8.out).row (by have := ZP.out; omega) _).mono (by have := ZP.out; omega)⟩⟩
          · have HN : Hid (getP b = none) := HG2.out (by rw [hp]; exact fun e => htb (Option.some.inj e))
            have d1 : (t.toList == b.toList) = false := by
              rw [beq_eq_false_iff_ne]
              exact fun e => htb (ByteArray.ext (Array.ext' (by rw [← Lib.toList_data, ← Lib.toList_data]; exact e)))
            clear cp hp own1 own2 QF
            go_wp2_with (first
              | (go_at_call 13; ((with_reducible refine (CP.out).mono ?_); rintro e w8 ⟨rfl, hb⟩; have hres8 := (hb.block _ (lt_of_heap hres7)).trans hres7; have hrow8 := (hb.block _ (lt_of_heap hrow7)).trans hrow7; have B8 := Lib.hid (acc B7.out hb); have HB8 := Lib.hid hb; clear hb))
              | (with_reducible (show wpList _ _ _ (⟨none, Op.store _ (Operand.tmp 2) _, _, _, _, _⟩ :: _) _ _); go_must (refine wpList_store_row rfl 34 (.tmp 2) (.tmp 61) rfl W.heap.size PZ rfl rfl 34 PZ hres8 hszZ rfl honeZ ?_))
              | (refine wpList_load_row rfl 34 (.tmp 5) rfl P rfl 34 ((PV.mk (v0 : Nat) (v1 : Nat) (v2 : Nat) (v3 : Nat) ZL).cells (.slice none 0 0) (.slice none 0 0)) (0, 0) _ hrow7 Try.underlying34 rfl hszQ ?_))
            refine bodyPost_ret (results_row_tmp rfl _ _ W.heap.size PZ (.bool false) rfl rfl (loadVar_packet _ _ _ rfl (setRow_at _ hres8))) rfl ?_
            exact ⟨B8.out.trans (below_setRow _ (Nat.le_refl _)), .inl ⟨HN.out, rfl⟩⟩
      · skip
        have d2 : (r.toList == ([] : List UInt8)) = false := by
          rw [beq_eq_false_iff_ne]
          exact fun e => hr (ByteArray.ext (Array.ext' (by rw [← Lib.toList_data]; exact e)))
        have d3 : r.toList.isEmpty = false := by
          cases h : r.toList with
          | nil => rw [h] at d2; cases d2
          | cons _ _ => rfl
        have N0 : Hid (getP b = none) := getP_bad H4.out (fun r' l e1 e2 _ => by
          obtain rfl := Option.some.inj e1
          exact absurd (size_zero (e2 h0).1) hr)
        clear hrow5 H4 h0 hr FQ
        go_wp2_with (with_reducible (show wpList _ _ _ (⟨none, Op.store _ (Operand.tmp 2) _, _, _, _, _⟩ :: _) _ _); go_must (refine wpList_store_row rfl 34 (.tmp 2) (.tmp 48) rfl W.heap.size PZ rfl rfl 34 PZ hres5 hszZ rfl honeZ ?_))
        refine bodyPost_ret (results_row_tmp rfl _ _ W.heap.size PZ (.bool false) rfl rfl (loadVar_packet _ _ _ rfl (setRow_at _ hres5))) rfl ?_
        exact ⟨B5.out.trans (below_setRow _ (Nat.le_refl _)), .inl ⟨N0.out, rfl⟩⟩
    · have d0 : decide (0 < v2) = true := decide_eq_true (by omega)
      have d9 : 0 < v2 := by omega
      have cg := dget_any r w5 S5.out
      cases hg : getL r with
      | none =>
        have N0 : Hid (getP b = none) := getP_bad H4.out (fun r' l e1 _ e3 => by
          obtain rfl := Option.some.inj e1
          rw [hg] at e3
          cases e3 h0)
        have CG : Hid (Calls Try.prog 35 #[.string r] w5 fun e w' => e = .returned (.tuple #[.agg ZC, .bool false]) ∧ Below w5.heap.size w5 w') := cg.mono fun e w' h => by
          obtain ⟨hb, ⟨_, e1⟩ | ⟨l, S1, S2, h1, _⟩⟩ := h
          · exact ⟨e1, hb⟩
          · rw [hg] at h1; cases h1
        have hszL : (Try.prog.info? 32).map (·.size) = some ZC.size := hszl
        have honeL : ZC.all (·.oneCell') = true := by first | decide | simp [ZC, Value.oneCell']
        clear cg hg H4 h0 FQ hrow5
        go_wp2_with (first
          | (go_at_call 35; ((with_reducible refine (CG.out).mono ?_); rintro e w6 ⟨rfl, hb⟩; have B7 : Hid (Below W.heap.size W ((w6.alloc (.cells ZC 32)).setRow w6.heap.size ZC)) := (acc B5.out hb).trans ((((Below.refl _ _).alloc (Nat.le_refl _) _).trans (below_setRow _ (Nat.le_refl _))).mono (acc B5.out hb).size); have hres7 : ((w6.alloc (.cells ZC 32)).setRow w6.heap.size ZC).heap[W.heap.size]? = some (.cells PZ 34) := ((((Below.refl _ _).alloc (Nat.le_refl _) _).trans (below_setRow _ (Nat.le_refl _))).block _ (lt_of_heap ((hb.block _ (lt_of_heap hres5)).trans hres5))).trans ((hb.block _ (lt_of_heap hres5)).trans hres5); have HRES7 := Lib.hid hres7; clear hb hres7))
          | (with_reducible (show wpList _ _ _ (⟨none, Op.store _ (Operand.tmp 6) _, _, _, _, _⟩ :: _) _ _); go_must (refine wpList_store_row rfl 32 (.tmp 6) (.tmp 36) rfl w6.heap.size ZC rfl rfl 32 ZC (heap_alloc_new w6 _) hszL rfl honeL ?_))
          | (with_reducible (show wpList _ _ _ (⟨none, Op.store _ (Operand.tmp 2) _, _, _, _, _⟩ :: _) _ _); go_must (refine wpList_store_row rfl 34 (.tmp 2) (.tmp 40) rfl W.heap.size PZ rfl rfl 34 PZ HRES7.out hszZ rfl honeZ ?_)))
        refine bodyPost_ret (results_row_tmp rfl _ _ W.heap.size PZ (.bool false) rfl rfl (loadVar_packet _ _ _ rfl (setRow_at _ HRES7.out))) rfl ?_
        exact ⟨B7.out.trans (below_setRow _ (Nat.le_refl _)), .inl ⟨N0.out, rfl⟩⟩
      | some l =>
        have HG1 : Hid (putP (PV.mk (v0 : Nat) (v1 : Nat) (v2 : Nat) (v3 : Nat) l) = some b → getP b = some (PV.mk (v0 : Nat) (v1 : Nat) (v2 : Nat) (v3 : Nat) l)) := fun h => by
          have hl := getL_put hg
          have := getP_some (q := (PV.mk (v0 : Nat) (v1 : Nat) (v2 : Nat) (v3 : Nat) l)) hl.2.1 hl.2.2 h
          rw [if_neg (show ¬ ((v2 : Nat) : Int) = 0 by omega)] at this
          exact this
        have HG2 : Hid (putP (PV.mk (v0 : Nat) (v1 : Nat) (v2 : Nat) (v3 : Nat) l) ≠ some b → getP b = none) := fun h => getP_bad H4.out (fun r' l' e1 _ e3 => by
          obtain rfl := Option.some.inj e1
          have e4 := e3 h0
          rw [hg] at e4
          obtain rfl := Option.some.inj e4
          exact h)
        have CG : Hid (Calls Try.prog 35 #[.string r] w5 fun e w' => ∃ A1 k1 A2 k2, l.Fine ∧ e = .returned (.tuple #[.agg (l.cells (.slice A1 l.ti.length k1) (.slice A2 l.li.length k2)), .bool true]) ∧ OwnAt w5.heap.size w' (.slice A1 l.ti.length k1) l.ti ∧ OwnAt w5.heap.size w' (.slice A2 l.li.length k2) l.li ∧ Below w5.heap.size w5 w') := cg.mono fun e w' h => by
          obtain ⟨hb, ⟨e0, _⟩ | ⟨l', S1, S2, h1, hF, e1, ho1, ho2⟩⟩ := h
          · rw [hg] at e0; cases e0
          · rw [hg] at h1
            obtain rfl := Option.some.inj h1
            obtain ⟨A1, k1, rfl⟩ := ho1.slice
            obtain ⟨A2, k2, rfl⟩ := ho2.slice
            exact ⟨A1, k1, A2, k2, hF, e1, ho1, ho2, hb⟩
        clear cg hg H4
        go_upto_region 7 with (first
          | (go_at_call 35; ((with_reducible refine (CG.out).mono ?_); rintro e w6 ⟨A1, k1, A2, k2, hF, rfl, ho1, ho2, hb⟩; have HB6 := Lib.hid hb; have HF := Lib.hid hF; have O1 := Lib.hid ho1; have O2 := Lib.hid ho2; clear hb hF ho1 ho2; have hone : (l.cells (.slice A1 l.ti.length k1) (.slice A2 l.li.length k2)).all (·.oneCell') = true := (by first | kernel_rfl | simp [LV.cells, Value.oneCell']); have hold : ZC.size = (l.cells (.slice A1 l.ti.length k1) (.slice A2 l.li.length k2)).size := rfl; have hszC : (Try.prog.info? 32).map (·.size) = some (l.cells (.slice A1 l.ti.length k1) (.slice A2 l.li.length k2)).size := hszl))
          | (with_reducible (show wpList _ _ _ (⟨none, Op.store _ (Operand.tmp 6) _, _, _, _, _⟩ :: _) _ _); go_must (refine wpList_store_row rfl 32 (.tmp 6) (.tmp 36) rfl w6.heap.size (l.cells (.slice A1 l.ti.length k1) (.slice A2 l.li.length k2)) rfl rfl 32 ZC (heap_alloc_new w6 _) hszC hold hone ?_)))
        have hb67 : Below w6.heap.size w6 ((w6.alloc (.cells ZC 32)).setRow w6.heap.size (l.cells (.slice A1 l.ti.length k1) (.slice A2 l.li.length k2))) := ((Below.refl _ _).alloc (Nat.le_refl _) _).trans (below_setRow _ (Nat.le_refl _))
        have hrowL : ((w6.alloc (.cells ZC 32)).setRow w6.heap.size (l.cells (.slice A1 l.ti.length k1) (.slice A2 l.li.length k2))).heap[w6.heap.size]? = some (.cells (l.cells (.slice A1 l.ti.length k1) (.slice A2 l.li.length k2)) 32) := setRow_at _ (heap_alloc_new w6 _)
        have b56 : Below w5.heap.size w5 ((w6.alloc (.cells ZC 32)).setRow w6.heap.size (l.cells (.slice A1 l.ti.length k1) (.slice A2 l.li.length k2))) := acc HB6.out hb67
        have hres6 := (b56.block _ (lt_of_heap hres5)).trans hres5
        have hrow6 := (b56.block _ (lt_of_heap hrow5)).trans hrow5
        have lt5 := lt_of_heap hrow5
        have hth : ((w6.alloc (.cells ZC 32)).setRow w6.heap.size (l.cells (.slice A1 l.ti.length k1) (.slice A2 l.li.length k2))).there P 4 (l.cells (.slice A1 l.ti.length k1) (.slice A2 l.li.length k2)).size := there_row hrow6 (show 4 + 21 ≤ 25 by omega)
        have own1 := (((O1.out.below hb67).mono (show P + 1 ≤ w5.heap.size by omega)).touch (touch_sets P (l.cells (.slice A1 l.ti.length k1) (.slice A2 l.li.length k2)).toList 4 _) (by simp))
        have own2 := (((O2.out.below hb67).mono (show P + 1 ≤ w5.heap.size by omega)).touch (touch_sets P (l.cells (.slice A1 l.ti.length k1) (.slice A2 l.li.length k2)).toList 4 _) (by simp))
        have hset : setM ((PV.mk (v0 : Nat) (v1 : Nat) (v2 : Nat) (v3 : Nat) ZL).cells (.slice none 0 0) (.slice none 0 0)) 4 (l.cells (.slice A1 l.ti.length k1) (.slice A2 l.li.length k2)).toList = (PV.mk (v0 : Nat) (v1 : Nat) (v2 : Nat) (v3 : Nat) l).cells (.slice A1 l.ti.length k1) (.slice A2 l.li.length k2) := by kernel_rfl
        have hrow7 : (((w6.alloc (.cells ZC 32)).setRow w6.heap.size (l.cells (.slice A1 l.ti.length k1) (.slice A2 l.li.length k2))).setCells P 4 (l.cells (.slice A1 l.ti.length k1) (.slice A2 l.li.length k2)).toList).heap[P]? = some (.cells ((PV.mk (v0 : Nat) (v1 : Nat) (v2 : Nat) (v3 : Nat) l).cells (.slice A1 l.ti.length k1) (.slice A2 l.li.length k2)) 34) := by
          have h := heap_sets (l.cells (.slice A1 l.ti.length k1) (.slice A2 l.li.length k2)).toList 4 _ _ hrow6
          rw [hset] at h
          exact h
        have hres7 : (((w6.alloc (.cells ZC 32)).setRow w6.heap.size (l.cells (.slice A1 l.ti.length k1) (.slice A2 l.li.length k2))).setCells P 4 (l.cells (.slice A1 l.ti.length k1) (.slice A2 l.li.length k2)).toList).heap[W.heap.size]? = some (.cells PZ 34) := ((touch_sets P (l.cells (.slice A1 l.ti.length k1) (.slice A2 l.li.length k2)).toList 4 ((w6.alloc (.cells ZC 32)).setRow w6.heap.size (l.cells (.slice A1 l.ti.length k1) (.slice A2 l.li.length k2)))).block _ (lt_of_heap hres6) (by have := ZP.out; simp only [List.mem_cons, List.not_mem_nil, or_false]; omega)).trans hres6
        have B7 : Hid (Below W.heap.size W (((w6.alloc (.cells ZC 32)).setRow w6.heap.size (l.cells (.slice A1 l.ti.length k1) (.slice A2 l.li.length k2))).setCells P 4 (l.cells (.slice A1 l.ti.length k1) (.slice A2 l.li.length k2)).toList)) := (acc B5.out b56).trans ((touch_sets P (l.cells (.slice A1 l.ti.length k1) (.slice A2 l.li.length k2)).toList 4 ((w6.alloc (.cells ZC 32)).setRow w6.heap.size (l.cells (.slice A1 l.ti.length k1) (.slice A2 l.li.length k2)))).below (acc B5.out b56).size (by have := ZP.out; intro x hx; simp only [List.mem_cons, List.not_mem_nil, or_false] at hx; omega))
        have QF := FQ.out l HF.out
        clear hres5 hrow5 B5 FQ hb67 b56 hres6 hrow6 lt5 p2 q1 q2 q3 q4 q5 d0 HB6 O1 O2 CG
        go_upto_region 12 with (first
          | (refine wpList_load_row rfl 32 (.tmp 6) rfl w6.heap.size rfl 32 (l.cells (.slice A1 l.ti.length k1) (.slice A2 l.li.length k2)) (0, 0) _ hrowL Try.underlying32 rfl hszC ?_)
          | (with_reducible (show wpList _ _ _ (⟨none, Op.store _ (Operand.tmp 42) _, _, _, _, _⟩ :: _) _ _); go_must (refine wpList_store_mid rfl 32 (.tmp 42) (.tmp 41) rfl P 4 (l.cells (.slice A1 l.ti.length k1) (.slice A2 l.li.length k2)) rfl rfl hth hszC hone ?_)))
        obtain ⟨w7, hw7⟩ : ∃ w7, ((w6.alloc (.cells ZC 32)).setRow w6.heap.size (l.cells (.slice A1 l.ti.length k1) (.slice A2 l.li.length k2))).setCells P 4 (l.cells (.slice A1 l.ti.length k1) (.slice A2 l.li.length k2)).toList = w7 := ⟨_, rfl⟩
        rw [hw7] at hrow7 hres7 B7 own1 own2 ⊢
        clear hw7 hrowL hth hone hold hszC hset
        have hszQ : (Try.prog.info? 34).map (·.size) = some ((PV.mk (v0 : Nat) (v1 : Nat) (v2 : Nat) (v3 : Nat) l).cells (.slice A1 l.ti.length k1) (.slice A2 l.li.length k2)).size := hszp
        have cp := dpput_any (PV.mk (v0 : Nat) (v1 : Nat) (v2 : Nat) (v3 : Nat) l) (.slice A1 l.ti.length k1) (.slice A2 l.li.length k2) w7 QF own1.slAt own2.slAt
        unfold PutPPost at cp
        cases hp : putP (PV.mk (v0 : Nat) (v1 : Nat) (v2 : Nat) (v3 : Nat) l) with
        | none =>
          rw [hp] at cp
          have CP : Hid (Calls Try.prog 13 #[.agg ((PV.mk (v0 : Nat) (v1 : Nat) (v2 : Nat) (v3 : Nat) l).cells (.slice A1 l.ti.length k1) (.slice A2 l.li.length k2))] w7 fun e w' => e = .returned (.tuple #[.string ⟨#[]⟩, .bool false]) ∧ Below w7.heap.size w7 w') := cp
          have HN : Hid (getP b = none) := HG2.out (by rw [hp]; simp)
          clear cp hp own1 own2 QF
          go_wp2_with (first
            | (go_at_call 13; ((with_reducible refine (CP.out).mono ?_); rintro e w8 ⟨rfl, hb⟩; have hres8 := (hb.block _ (lt_of_heap hres7)).trans hres7; have hrow8 := (hb.block _ (lt_of_heap hrow7)).trans hrow7; have B8 := Lib.hid (acc B7.out hb); have HB8 := Lib.hid hb; clear hb))
            | (with_reducible (show wpList _ _ _ (⟨none, Op.store _ (Operand.tmp 2) _, _, _, _, _⟩ :: _) _ _); go_must (refine wpList_store_row rfl 34 (.tmp 2) (.tmp 61) rfl W.heap.size PZ rfl rfl 34 PZ hres8 hszZ rfl honeZ ?_))
            | (with_reducible (show wpList _ _ _ (⟨some _, Op.load _ (Operand.tmp 5), _, _, _, _⟩ :: _) _ _); go_must (refine wpList_load_row rfl 34 (.tmp 5) rfl P rfl 34 ((PV.mk (v0 : Nat) (v1 : Nat) (v2 : Nat) (v3 : Nat) l).cells (.slice A1 l.ti.length k1) (.slice A2 l.li.length k2)) (0, 0) _ hrow7 Try.underlying34 rfl hszQ ?_)))
          refine bodyPost_ret (results_row_tmp rfl _ _ W.heap.size PZ (.bool false) rfl rfl (loadVar_packet _ _ _ rfl (setRow_at _ hres8))) rfl ?_
          exact ⟨B8.out.trans (below_setRow _ (Nat.le_refl _)), .inl ⟨HN.out, rfl⟩⟩
        | some t =>
          rw [hp] at cp
          have CP : Hid (Calls Try.prog 13 #[.agg ((PV.mk (v0 : Nat) (v1 : Nat) (v2 : Nat) (v3 : Nat) l).cells (.slice A1 l.ti.length k1) (.slice A2 l.li.length k2))] w7 fun e w' => e = .returned (.tuple #[.string t, .bool true]) ∧ Below w7.heap.size w7 w') := cp
          by_cases htb : t = b
          · subst htb
            have HY : Hid (getP t = some (PV.mk (v0 : Nat) (v1 : Nat) (v2 : Nat) (v3 : Nat) l)) := HG1.out hp
            have O1 := Lib.hid own1
            have O2 := Lib.hid own2
            have hone : ((PV.mk (v0 : Nat) (v1 : Nat) (v2 : Nat) (v3 : Nat) l).cells (.slice A1 l.ti.length k1) (.slice A2 l.li.length k2)).all (·.oneCell') = true := by first | kernel_rfl | simp [PV.cells, Value.oneCell']
            have hold : PZ.size = ((PV.mk (v0 : Nat) (v1 : Nat) (v2 : Nat) (v3 : Nat) l).cells (.slice A1 l.ti.length k1) (.slice A2 l.li.length k2)).size := rfl
            clear cp hp own1 own2 QF
            go_wp2_with (first
              | (go_at_call 13; ((with_reducible refine (CP.out).mono ?_); rintro e w8 ⟨rfl, hb⟩; have hres8 := (hb.block _ (lt_of_heap hres7)).trans hres7; have hrow8 := (hb.block _ (lt_of_heap hrow7)).trans hrow7; have B8 := Lib.hid (acc B7.out hb); have HB8 := Lib.hid hb; clear hb))
              | (with_reducible (show wpList _ _ _ (⟨none, Op.store _ (Operand.tmp 2) _, _, _, _, _⟩ :: _) _ _); go_must (refine wpList_store_row rfl 34 (.tmp 2) (.tmp 62) rfl W.heap.size ((PV.mk (v0 : Nat) (v1 : Nat) (v2 : Nat) (v3 : Nat) l).cells (.slice A1 l.ti.length k1) (.slice A2 l.li.length k2)) rfl rfl 34 PZ hres8 hszQ hold hone ?_))
              | (refine wpList_load_row rfl 34 (.tmp 5) rfl P rfl 34 ((PV.mk (v0 : Nat) (v1 : Nat) (v2 : Nat) (v3 : Nat) l).cells (.slice A1 l.ti.length k1) (.slice A2 l.li.length k2)) (0, 0) _ hrow7 Try.underlying34 rfl hszQ ?_)
              | (refine wpList_load_row rfl 34 (.tmp 5) rfl P rfl 34 ((PV.mk (v0 : Nat) (v1 : Nat) (v2 : Nat) (v3 : Nat) l).cells (.slice A1 l.ti.length k1) (.slice A2 l.li.length k2)) (0, 0) _ hrow8 Try.underlying34 rfl hszQ ?_))
            refine bodyPost_ret (results_row_tmp rfl _ _ W.heap.size ((PV.mk (v0 : Nat) (v1 : Nat) (v2 : Nat) (v3 : Nat) l).cells (.slice A1 l.ti.length k1) (.slice A2 l.li.length k2)) (.bool true) rfl rfl (loadVar_packet _ _ _ rfl (setRow_at _ hres8))) rfl ?_
            exact ⟨B8.out.trans (below_setRow _ (Nat.le_refl _)), .inr ⟨(PV.mk (v0 : Nat) (v1 : Nat) (v2 : Nat) (v3 : Nat) l), _, _, HY.out, rfl, ((O1.out.below HB8.out).row (by have := ZP.out; omega) _).mono (by have := ZP.out; omega), ((O2.out.below HB8.out).row (by have := ZP.out; omega) _).mono (by have := ZP.out; omega)⟩⟩
          · have HN : Hid (getP b = none) := HG2.out (by rw [hp]; exact fun e => htb (Option.some.inj e))
            have d1 : (t.toList == b.toList) = false := by
              rw [beq_eq_false_iff_ne]
              exact fun e => htb (ByteArray.ext (Array.ext' (by rw [← Lib.toList_data, ← Lib.toList_data]; exact e)))
            clear cp hp own1 own2 QF
            go_wp2_with (first
              | (go_at_call 13; ((with_reducible refine (CP.out).mono ?_); rintro e w8 ⟨rfl, hb⟩; have hres8 := (hb.block _ (lt_of_heap hres7)).trans hres7; have hrow8 := (hb.block _ (lt_of_heap hrow7)).trans hrow7; have B8 := Lib.hid (acc B7.out hb); have HB8 := Lib.hid hb; clear hb))
              | (with_reducible (show wpList _ _ _ (⟨none, Op.store _ (Operand.tmp 2) _, _, _, _, _⟩ :: _) _ _); go_must (refine wpList_store_row rfl 34 (.tmp 2) (.tmp 61) rfl W.heap.size PZ rfl rfl 34 PZ hres8 hszZ rfl honeZ ?_))
              | (refine wpList_load_row rfl 34 (.tmp 5) rfl P rfl 34 ((PV.mk (v0 : Nat) (v1 : Nat) (v2 : Nat) (v3 : Nat) l).cells (.slice A1 l.ti.length k1) (.slice A2 l.li.length k2)) (0, 0) _ hrow7 Try.underlying34 rfl hszQ ?_))
            refine bodyPost_ret (results_row_tmp rfl _ _ W.heap.size PZ (.bool false) rfl rfl (loadVar_packet _ _ _ rfl (setRow_at _ hres8))) rfl ?_
            exact ⟨B8.out.trans (below_setRow _ (Nat.le_refl _)), .inl ⟨HN.out, rfl⟩⟩
end Go.Proofs.Ytbnmddopgbhapaa
namespace Go.Proofs.Ytbnmddopgbhapaa
open Go.RowKit

set_option maxRecDepth 20000 in
set_option maxHeartbeats 8000000 in
theorem same_packet (q : PV) (S1 S2 R1 R2 : Value) (W : World) (h1 : SlAt W S1 q.lt.ti) (h2 : SlAt W S2 q.lt.li) (h3 : SlAt W R1 q.lt.ti) (h4 : SlAt W R2 q.lt.li) :
    Calls Try.prog 16 #[.agg (q.cells S1 S2), .agg (q.cells R1 R2)] W fun e w' => e = .returned (.bool true) ∧ Below W.heap.size W w' := by
  have bw : Below W.heap.size W ((W.alloc (.cells (q.cells S1 S2) 34)).alloc (.cells (q.cells R1 R2) 34)) := ((Below.refl W.heap.size W).alloc (Nat.le_refl _) _).alloc (by simp) _
  have hl1 : (Try.prog.info? 32).map (·.size) = some (q.lt.cellsL S1 S2).length := by kernel_rfl
  have hl2 : (Try.prog.info? 32).map (·.size) = some (q.lt.cellsL R1 R2).length := by kernel_rfl
  have HR1 : Hid (((W.alloc (.cells (q.cells S1 S2) 34)).alloc (.cells (q.cells R1 R2) 34)).rangeAt W.heap.size 4 (q.lt.cellsL S1 S2)) := inner_range ((Lib.alloc_old _ _ _ (by simp)).trans (heap_alloc_new W _))
  have HR2 : Hid (((W.alloc (.cells (q.cells S1 S2) 34)).alloc (.cells (q.cells R1 R2) 34)).rangeAt (W.heap.size + 1) 4 (q.lt.cellsL R1 R2)) := inner_range (by
    have := heap_alloc_new (W.alloc (.cells (q.cells S1 S2) 34)) (.cells (q.cells R1 R2) 34)
    simpa using this)
  have cs := sameLetter_any q.lt q.lt S1 S2 R1 R2 ((W.alloc (.cells (q.cells S1 S2) 34)).alloc (.cells (q.cells R1 R2) 34)) (h1.below bw) (h2.below bw) (h3.below bw) (h4.below bw)
  rw [(sameLB_iff q.lt q.lt).2 rfl] at cs
  have CS := Lib.hid cs
  have BW := Lib.hid bw
  clear h1 h2 h3 h4 cs bw
  go_enter Try.func16, Try.ntmps16
  go_wp2_with (first
    | (with_reducible (show wpList _ _ _ (⟨some _, Op.load _ (Operand.tmp 32), _, _, _, _⟩ :: _) _ _); go_must (refine wpList_load_midH (by kernel_rfl) 32 (.tmp 32) rfl W.heap.size 4 rfl (q.lt.cellsL S1 S2) _ HR1.out Try.underlying32 rfl hl1 ?_))
    | (with_reducible (show wpList _ _ _ (⟨some _, Op.load _ (Operand.tmp 34), _, _, _, _⟩ :: _) _ _); go_must (refine wpList_load_midH (by kernel_rfl) 32 (.tmp 34) rfl (W.heap.size + 1) 4 rfl (q.lt.cellsL R1 R2) _ HR2.out Try.underlying32 rfl hl2 ?_))
    | (go_at_call 19; ((with_reducible refine (CS.out).mono ?_); rintro e w1 ⟨rfl, hb⟩; have HB := Lib.hid hb; clear hb)))
  go_ret
  exact ⟨rfl, acc BW.out HB.out⟩
theorem same_zero (W : World) : Calls Try.prog 16 #[.agg PZ, .agg PZ] W fun e w' => e = .returned (.bool true) ∧ Below W.heap.size W w' :=
  same_packet ⟨0, 0, 0, 0, ZL⟩ (.slice none 0 0) (.slice none 0 0) (.slice none 0 0) (.slice none 0 0) W (SlAt.nil _) (SlAt.nil _) (SlAt.nil _) (SlAt.nil _)
theorem zero_is {l : LV} (h : zeroB l = true) : l = ZL := by
  unfold zeroB at h
  simp only [Bool.and_eq_true, beq_iff_eq] at h
  obtain ⟨h1, h2, h3, h4, h5, h6, h7, h8, h9, h10, h11, h12, h13, h14, h15, h16, h17, h18, h19, h20, h21⟩ := h
  have e0 : ∀ {s : ByteArray}, s.toList = [] → s = ByteArray.empty := fun h => toList_inj (by rw [h, Lib.toList_data]; rfl)
  have h6 := e0 h6
  have h7 := e0 h7
  have h8 := e0 h8
  have h17 := e0 h17
  have h20 := e0 h20
  have h10 : l.af = 0 := by omega
  have h11 : l.au = 0 := by omega
  have h13 : l.li = [] := List.eq_nil_of_length_eq_zero (by omega)
  have h18 : l.ti = [] := List.eq_nil_of_length_eq_zero (by omega)
  have h19 : l.more = false := by cases hm : l.more with | false => rfl | true => rw [hm] at h19; cases h19
  cases l
  simp only at *
  subst h1 h2 h3 h4 h5 h6 h7 h8 h9 h10 h11 h12 h13 h14 h15 h16 h17 h18 h19 h20 h21
  rfl
/-- what was written is read as it was -/
theorem getP_same {q : PV} {b : ByteArray} (hF : q.Fine) (h : putP q = some b) : getP b = some q := by
  rw [getP_some hF.ltF.afB hF.ltF.auB h]
  by_cases h0 : q.sq = 0
  · rw [if_pos h0]
    obtain ⟨hd, t, e1, e2, e3⟩ := putP_split h
    have hz : zeroB q.lt = true := by
      have hs := (inP_zero e2 h0).2
      rw [some_zero] at hs
      cases hz : zeroB q.lt with
      | true => rfl
      | false => rw [hz] at hs; cases hs
    have hl := zero_is hz
    have e : PV.of (x4 q) = ⟨q.pf, q.pt, q.sq, q.ak, ZL⟩ := rfl
    rw [e, ← hl]
  · rw [if_neg h0]
end Go.Proofs.Ytbnmddopgbhapaa
namespace Go.Proofs.Ytbnmddopgbhapaa
open Go.RowKit

/-- what both readers tell of bytes -/
def GP2 (W : World) (g : Option PV) (e : Ending) (w' : World) : Prop :=
  Below W.heap.size W w' ∧ match g with
    | none => e = .returned (.tuple #[.agg PZ, .bool false])
    | some m => ∃ A1 k1 A2 k2, e = .returned (.tuple #[.agg (m.cells (.slice A1 m.lt.ti.length k1) (.slice A2 m.lt.li.length k2)), .bool true]) ∧ SlAt w' (.slice A1 m.lt.ti.length k1) m.lt.ti ∧ SlAt w' (.slice A2 m.lt.li.length k2) m.lt.li
theorem gp_any (c : ByteArray) (W : World) (hs : c.size ≤ 9223372036854775807) : Calls Try.prog 14 #[.string c] W (GP2 W (getP c)) := by
  refine (pget_any c W hs).mono ?_
  rintro e w' ⟨hb, ⟨h1, h2⟩ | ⟨m, S1, S2, h1, h2, h3, h4, _⟩⟩
  · rw [h1]; exact ⟨hb, h2⟩
  · obtain ⟨A1, k1, rfl⟩ := own_slice h3
    obtain ⟨A2, k2, rfl⟩ := own_slice h4
    rw [h1]; exact ⟨hb, A1, k1, A2, k2, h2, slAt_own h3, slAt_own h4⟩
theorem dgp_any (c : ByteArray) (W : World) (hs : c.size ≤ 9223372036854775807) : Calls Try.prog 15 #[.string c] W (GP2 W (getP c)) := by
  refine (dpget_any c W hs).mono ?_
  rintro e w' ⟨hb, ⟨h1, h2⟩ | ⟨m, S1, S2, h1, h2, h3, h4⟩⟩
  · rw [h1]; exact ⟨hb, h2⟩
  · obtain ⟨A1, k1, rfl⟩ := h3.slice
    obtain ⟨A2, k2, rfl⟩ := h4.slice
    rw [h1]; exact ⟨hb, A1, k1, A2, k2, h2, h3.slAt, h4.slAt⟩
theorem new_row (w : World) (X : Array Value) : (((w.alloc (.cells PZ 34)).setRow w.heap.size X).heap[w.heap.size]? = some (.cells X 34)) ∧ Below w.heap.size w ((w.alloc (.cells PZ 34)).setRow w.heap.size X) :=
  ⟨setRow_at _ (heap_alloc_new w _), ((Below.refl _ _).alloc (Nat.le_refl _) _).trans (below_setRow _ (Nat.le_refl _))⟩
set_option maxRecDepth 20000 in
set_option maxHeartbeats 16000000 in
theorem packetTells_any (q : PV) (S1 S2 : Value) (b : ByteArray) (W : World) (hF : q.Fine) (h1 : SlAt W S1 q.lt.ti) (h2 : SlAt W S2 q.lt.li) (hb : b.size ≤ 9223372036854775807) :
    Calls Try.prog 3 #[.agg (q.cells S1 S2), .string b] W fun e w' => e = .returned (.bool true) ∧ Below W.heap.size W w' := by
  have bw : Below W.heap.size W (W.alloc (.cells (q.cells S1 S2) 34)) := (Below.refl W.heap.size W).alloc (Nat.le_refl _) _
  have BW := Lib.hid bw
  have HB0 : Hid (Below (W.alloc (.cells (q.cells S1 S2) 34)).heap.size (W.alloc (.cells (q.cells S1 S2) 34)) (W.alloc (.cells (q.cells S1 S2) 34))) := Below.refl _ _
  have up : ∀ w, Below (W.alloc (.cells (q.cells S1 S2) 34)).heap.size (W.alloc (.cells (q.cells S1 S2) 34)) w → Below W.heap.size W w := fun w hb => bw.trans (hb.mono (by simp))
  have UP := Lib.hid up
  have hszp : (Try.prog.info? 34).map (·.size) = some (q.cells S1 S2).size := by kernel_rfl
  have hszl : (Try.prog.info? 32).map (·.size) = some (q.lt.cellsL S1 S2).length := by kernel_rfl
  have HR : Hid (∀ w, Below (W.alloc (.cells (q.cells S1 S2) 34)).heap.size (W.alloc (.cells (q.cells S1 S2) 34)) w → w.heap[W.heap.size]? = some (.cells (q.cells S1 S2) 34) ∧ w.rangeAt W.heap.size 4 (q.lt.cellsL S1 S2)) := fun w hb => by
    have e := (hb.block _ (by simp)).trans (heap_alloc_new W (.cells (q.cells S1 S2) 34))
    exact ⟨e, inner_range e⟩
  have CA : Hid (∀ w, Below (W.alloc (.cells (q.cells S1 S2) 34)).heap.size (W.alloc (.cells (q.cells S1 S2) 34)) w → Calls Try.prog 11 #[] w fun e w' => e = .returned (.bool true) ∧ Below w.heap.size w w') := fun w _ => alive_any w
  have cl : ∀ w, Below (W.alloc (.cells (q.cells S1 S2) 34)).heap.size (W.alloc (.cells (q.cells S1 S2) 34)) w → Calls Try.prog 10 #[.agg (q.lt.cells S1 S2)] w fun e w' => e = .returned (.bool (lightB q.lt)) ∧ Below w.heap.size w w' := fun w hb => light_any q.lt S1 S2 w hF.ltF (h1.below (up w hb)) (h2.below (up w hb))
  have pp : ∀ w, Below (W.alloc (.cells (q.cells S1 S2) 34)).heap.size (W.alloc (.cells (q.cells S1 S2) 34)) w → Calls Try.prog 12 #[.agg (q.cells S1 S2)] w (PutPPost w q) := fun w hb => pput_any q S1 S2 w hF (h1.below (up w hb)) (h2.below (up w hb))
  have dp : ∀ w, Below (W.alloc (.cells (q.cells S1 S2) 34)).heap.size (W.alloc (.cells (q.cells S1 S2) 34)) w → Calls Try.prog 13 #[.agg (q.cells S1 S2)] w (PutPPost w q) := fun w hb => dpput_any q S1 S2 w hF (h1.below (up w hb)) (h2.below (up w hb))
  unfold PutPPost at pp dp
  have HSL : Hid (∀ w, Below (W.alloc (.cells (q.cells S1 S2) 34)).heap.size (W.alloc (.cells (q.cells S1 S2) 34)) w → SlAt w S1 q.lt.ti ∧ SlAt w S2 q.lt.li) := fun w hb => ⟨h1.below (up w hb), h2.below (up w hb)⟩
  have hb0 : b.size ≤ 9223372036854775807 := hb
  clear h1 h2 up bw hb
  generalize lightB q.lt = q1 at *
  have CL := Lib.hid cl
  clear cl
  cases q1 with
  | false =>
    clear pp dp hF
    go_enter Try.func3, Try.ntmps3
    go_wp2_with (first
      | (with_reducible (show wpList _ _ _ (⟨some _, Op.load _ (Operand.tmp 15), _, _, _, _⟩ :: _) _ _); go_must (refine wpList_load_mid rfl 32 (.tmp 15) rfl W.heap.size 4 rfl (q.lt.cellsL S1 S2) _ (HR.out _ (by first | exact HB4.out | exact HB3.out | exact HB2.out | exact HB1.out | exact HB0.out)).2 Try.underlying32 rfl hszl ?_))
      | (go_at_call 10; ((with_reducible refine (CL.out _ HB0.out).mono ?_); rintro e w1 ⟨rfl, hb⟩; have HB1 : Hid (Below (W.alloc (.cells (q.cells S1 S2) 34)).heap.size (W.alloc (.cells (q.cells S1 S2) 34)) w1) := acc HB0.out hb; clear hb))
      | (go_at_call 11; ((with_reducible refine (CA.out _ HB1.out).mono ?_); rintro e w2 ⟨rfl, hb⟩; have HB2 : Hid (Below (W.alloc (.cells (q.cells S1 S2) 34)).heap.size (W.alloc (.cells (q.cells S1 S2) 34)) w2) := acc HB1.out hb; clear hb)))
    go_ret
    exact ⟨rfl, UP.out _ HB2.out⟩
  | true =>
    by_cases h3 : 3000 < b.size
    · have d3 : decide ((3000 : Int) < (b.size : Int)) = true := by simp; omega
      clear pp dp hF
      go_enter Try.func3, Try.ntmps3
      go_wp2_with (first
        | (with_reducible (show wpList _ _ _ (⟨some _, Op.load _ (Operand.tmp 15), _, _, _, _⟩ :: _) _ _); go_must (refine wpList_load_mid rfl 32 (.tmp 15) rfl W.heap.size 4 rfl (q.lt.cellsL S1 S2) _ (HR.out _ (by first | exact HB4.out | exact HB3.out | exact HB2.out | exact HB1.out | exact HB0.out)).2 Try.underlying32 rfl hszl ?_))
        | (go_at_call 10; ((with_reducible refine (CL.out _ HB0.out).mono ?_); rintro e w1 ⟨rfl, hb⟩; have HB1 : Hid (Below (W.alloc (.cells (q.cells S1 S2) 34)).heap.size (W.alloc (.cells (q.cells S1 S2) 34)) w1) := acc HB0.out hb; clear hb))
        | (go_at_call 11; ((with_reducible refine (CA.out _ HB1.out).mono ?_); rintro e w2 ⟨rfl, hb⟩; have HB2 : Hid (Below (W.alloc (.cells (q.cells S1 S2) 34)).heap.size (W.alloc (.cells (q.cells S1 S2) 34)) w2) := acc HB1.out hb; clear hb)))
      go_ret
      exact ⟨rfl, UP.out _ HB2.out⟩
    · have d3 : decide ((3000 : Int) < (b.size : Int)) = false := by simp; omega
      cases hp : putP q with
      | none =>
        rw [hp] at pp dp
        have CP : Hid (∀ w, Below (W.alloc (.cells (q.cells S1 S2) 34)).heap.size (W.alloc (.cells (q.cells S1 S2) 34)) w → Calls Try.prog 12 #[.agg (q.cells S1 S2)] w fun e w' => e = .returned (.tuple #[.string ⟨#[]⟩, .bool false]) ∧ Below w.heap.size w w') := pp
        have CQP : Hid (∀ w, Below (W.alloc (.cells (q.cells S1 S2) 34)).heap.size (W.alloc (.cells (q.cells S1 S2) 34)) w → Calls Try.prog 13 #[.agg (q.cells S1 S2)] w fun e w' => e = .returned (.tuple #[.string ⟨#[]⟩, .bool false]) ∧ Below w.heap.size w w') := dp
        have HBS : Hid ((⟨#[]⟩ : ByteArray).size ≤ 9223372036854775807 ∧ b.size ≤ 9223372036854775807) := ⟨by decide, hb0⟩
        clear pp dp hp hF hb0 h3
        go_enter Try.func3, Try.ntmps3
        go_wp2_with (first
          | (with_reducible (show wpList _ _ _ (⟨some _, Op.load _ (Operand.tmp 15), _, _, _, _⟩ :: _) _ _); go_must (refine wpList_load_mid rfl 32 (.tmp 15) rfl W.heap.size 4 rfl (q.lt.cellsL S1 S2) _ (HR.out _ (by first | exact HB4.out | exact HB3.out | exact HB2.out | exact HB1.out | exact HB0.out)).2 Try.underlying32 rfl hszl ?_))
          | (with_reducible (show wpList _ _ _ (⟨some _, Op.load _ (Operand.tmp 2), _, _, _, _⟩ :: _) _ _); go_must (refine wpList_load_row rfl 34 (.tmp 2) rfl W.heap.size rfl 34 (q.cells S1 S2) (0, 0) _ (HR.out _ (by first | exact HB4.out | exact HB3.out | exact HB2.out | exact HB1.out | exact HB0.out)).1 Try.underlying34 rfl hszp ?_))
          | (go_at_call 10; ((with_reducible refine (CL.out _ HB0.out).mono ?_); rintro e w1 ⟨rfl, hb⟩; have HB1 : Hid (Below (W.alloc (.cells (q.cells S1 S2) 34)).heap.size (W.alloc (.cells (q.cells S1 S2) 34)) w1) := acc HB0.out hb; clear hb))
          | (go_at_call 11; ((with_reducible refine (CA.out _ HB1.out).mono ?_); rintro e w2 ⟨rfl, hb⟩; have HB2 : Hid (Below (W.alloc (.cells (q.cells S1 S2) 34)).heap.size (W.alloc (.cells (q.cells S1 S2) 34)) w2) := acc HB1.out hb; clear hb))
          | (go_at_call 12; ((with_reducible refine (CP.out _ HB2.out).mono ?_); rintro e w3 ⟨rfl, hb⟩; have HB3 : Hid (Below (W.alloc (.cells (q.cells S1 S2) 34)).heap.size (W.alloc (.cells (q.cells S1 S2) 34)) w3) := acc HB2.out hb; clear hb))
          | (go_at_call 13; ((with_reducible refine (CQP.out _ HB3.out).mono ?_); rintro e w4 ⟨rfl, hb⟩; have HB4 : Hid (Below (W.alloc (.cells (q.cells S1 S2) 34)).heap.size (W.alloc (.cells (q.cells S1 S2) 34)) w4) := acc HB3.out hb; clear hb)))
        have HBL : Hid (Below (W.alloc (.cells (q.cells S1 S2) 34)).heap.size (W.alloc (.cells (q.cells S1 S2) 34)) (w4.alloc (.cells #[.string ⟨#[]⟩, .string b] 9))) := accA HB4.out _
        have hrowl : (w4.alloc (.cells #[.string ⟨#[]⟩, .string b] 9)).heap[w4.heap.size]? = some (.cells #[.string ⟨#[]⟩, .string b] 9) := heap_alloc_new w4 _
        have HCL : Hid (∀ w, Below (w4.alloc (.cells #[.string ⟨#[]⟩, .string b] 9)).heap.size (w4.alloc (.cells #[.string ⟨#[]⟩, .string b] 9)) w → w.cell? ⟨w4.heap.size, 0, none⟩ = some (.string ⟨#[]⟩) ∧ w.cell? ⟨w4.heap.size, 1, none⟩ = some (.string b)) := fun w h => by
          have e := (h.block _ (lt_of_heap hrowl)).trans hrowl
          exact ⟨cell_at e rfl, cell_at e rfl⟩
        clear hrowl
        go_loopg [51] 3 (fun z s51 wx => ∃ (i : Nat), i + z = 3 ∧ i ≤ 2 ∧ s51 = .int .i64 (i : Nat) ∧ Hid (Below (w4.alloc (.cells #[.string ⟨#[]⟩, .string b] 9)).heap.size (w4.alloc (.cells #[.string ⟨#[]⟩, .string b] 9)) wx))
        case atStart => exact ⟨0, by omega, by omega, rfl, Below.refl _ _⟩
        case round =>
          obtain ⟨i, hiz, hi2, rfl, HB⟩ := hrel
          by_cases hi : i < 2
          · have bi : decide ((i : Int) < 2) = true := by simp; omega
            have bj : (i : Int) < 2 := by omega
            obtain ⟨c, hc, hcs⟩ : ∃ c, wr.cell? ⟨w4.heap.size, i, none⟩ = some (.string c) ∧ c.size ≤ 9223372036854775807 := by
              obtain ⟨y0, y1⟩ := HCL.out wr HB.out
              have hc : i = 0 ∨ i = 1 := by omega
              rcases hc with rfl | rfl
              · exact ⟨_, y0, HBS.out.1⟩
              · exact ⟨_, y1, HBS.out.2⟩
            have cg := fun w => gp_any c w hcs
            have cd := fun w => dgp_any c w hcs
            clear hcs
            cases de : (c.toList == ([] : List UInt8)) with
            | false =>
              cases hg : getP c with
              | none =>
                rw [hg] at cg cd
                have CG := Lib.hid cg
                have CD := Lib.hid cd
                clear cg cd hg
                go_upto_region 11 with (first
                  | (go_at_call 14; ((with_reducible refine (CG.out _).mono ?_); rintro e w5 ⟨hb5, rfl⟩; have HB5 := Lib.hid hb5; clear hb5; have hone : Hid (PZ.all (·.oneCell') = true) := (by show _ = _; first | kernel_rfl | simp [PV.cells, Value.oneCell']); have hold : Hid (PZ.size = PZ.size) := rfl; have hszX : (Try.prog.info? 34).map (·.size) = some PZ.size := hszp))
                  | (with_reducible (show wpList _ _ _ (⟨none, Op.store _ (Operand.tmp 11) _, _, _, _, _⟩ :: _) _ _); go_must (refine wpList_store_row rfl 34 (.tmp 11) (.tmp 58) rfl w5.heap.size PZ rfl rfl 34 PZ (heap_alloc_new w5 _) hszX rfl hone.out ?_)))
                obtain ⟨rx, bx⟩ := new_row w5 PZ
                have HBA := Lib.hid (acc HB5.out bx)
                obtain ⟨bX, hbX⟩ : ∃ n, w5.heap.size = n := ⟨_, rfl⟩
                obtain ⟨wa, hwa⟩ : ∃ w, ((w5.alloc (.cells PZ 34)).setRow w5.heap.size PZ) = w := ⟨_, rfl⟩
                rw [hwa] at rx HBA ⊢
                rw [hbX] at rx ⊢
                clear bx hwa hbX hone hold hszX HB5
                go_upto_region 12 with (first
                  | (go_at_call 15; ((with_reducible refine (CD.out _).mono ?_); rintro e w6 ⟨hb6, rfl⟩; have HB6 := Lib.hid hb6; clear hb6; have hone : Hid (PZ.all (·.oneCell') = true) := (by show _ = _; first | kernel_rfl | simp [PV.cells, Value.oneCell']); have hold : Hid (PZ.size = PZ.size) := rfl; have hszX : (Try.prog.info? 34).map (·.size) = some PZ.size := hszp))
                  | (with_reducible (show wpList _ _ _ (⟨none, Op.store _ (Operand.tmp 13) _, _, _, _, _⟩ :: _) _ _); go_must (refine wpList_store_row rfl 34 (.tmp 13) (.tmp 63) rfl w6.heap.size PZ rfl rfl 34 PZ (heap_alloc_new w6 _) hszX rfl hone.out ?_)))
                obtain ⟨ry, by_⟩ := new_row w6 PZ
                have hab := acc HB6.out by_
                have rx6 := (hab.block _ (lt_of_heap rx)).trans rx
                have HBB := Lib.hid (acc HBA.out hab)
                obtain ⟨bY, hbY⟩ : ∃ n, w6.heap.size = n := ⟨_, rfl⟩
                obtain ⟨wb, hwb⟩ : ∃ w, ((w6.alloc (.cells PZ 34)).setRow w6.heap.size PZ) = w := ⟨_, rfl⟩
                rw [hwb] at rx6 ry HBB ⊢
                rw [hbY] at ry ⊢
                have hw1 := acc (acc HBL.out HB.out) HBB.out
                have HRB : Hid (∀ w, Below wb.heap.size wb w → w.heap[bX]? = some (.cells PZ 34) ∧ w.heap[bY]? = some (.cells PZ 34) ∧ w.heap[W.heap.size]? = some (.cells (q.cells S1 S2) 34)) := fun w h => ⟨(h.block _ (lt_of_heap rx6)).trans rx6, (h.block _ (lt_of_heap ry)).trans ry, (HR.out w (acc hw1 h)).1⟩
                have K0 : Hid (Below wb.heap.size wb wb) := Below.refl _ _
                have hszX : (Try.prog.info? 34).map (·.size) = some PZ.size := hszp
                have hszY : (Try.prog.info? 34).map (·.size) = some PZ.size := hszp
                have CS : Hid (∀ w, Below wb.heap.size wb w → Calls Try.prog 16 #[.agg PZ, .agg PZ] w fun e w' => e = .returned (.bool true) ∧ Below w.heap.size w w') := fun w _ => same_zero w
                clear hab rx rx6 ry hwb hbY by_ hw1 hone hold HB6 HBA
                go_wp2_with (first
                  | (with_reducible (show wpList _ _ _ (⟨some _, Op.load _ (Operand.tmp 11), _, _, _, _⟩ :: _) _ _); go_must (refine wpList_load_rowH (by kernel_rfl) 34 (.tmp 11) rfl bX rfl 34 PZ (0, 0) _ (HRB.out _ (by first | exact K2.out | exact K1.out | exact K0.out)).1 Try.underlying34 rfl hszX ?_))
                  | (with_reducible (show wpList _ _ _ (⟨some _, Op.load _ (Operand.tmp 13), _, _, _, _⟩ :: _) _ _); go_must (refine wpList_load_rowH (by kernel_rfl) 34 (.tmp 13) rfl bY rfl 34 PZ (0, 0) _ (HRB.out _ (by first | exact K2.out | exact K1.out | exact K0.out)).2.1 Try.underlying34 rfl hszY ?_))
                  | (go_at_call 16; ((with_reducible refine (CS.out _ K0.out).mono ?_); rintro e w7 ⟨rfl, hb7⟩; have K1 := Lib.hid (acc K0.out hb7); clear hb7)))
                go_roundg (gk - 1)
                case measure => omega
                case rel => exact ⟨i + 1, by omega, by omega, by go_num, acc HB.out (acc HBB.out K1.out)⟩
              | some m =>
                rw [hg] at cg cd
                have CG := Lib.hid cg
                have CD := Lib.hid cd
                clear cg cd hg
                go_upto_region 11 with (first
                  | (go_at_call 14; ((with_reducible refine (CG.out _).mono ?_); rintro e w5 ⟨hb5, A1, k1, A2, k2, rfl, hx1, hx2⟩; have HB5 := Lib.hid hb5; clear hb5; have HX1 := Lib.hid hx1; have HX2 := Lib.hid hx2; clear hx1 hx2; have hone : Hid ((m.cells (.slice A1 m.lt.ti.length k1) (.slice A2 m.lt.li.length k2)).all (·.oneCell') = true) := (by show _ = _; first | kernel_rfl | simp [PV.cells, Value.oneCell']); have hold : Hid (PZ.size = (m.cells (.slice A1 m.lt.ti.length k1) (.slice A2 m.lt.li.length k2)).size) := rfl; have hszX : (Try.prog.info? 34).map (·.size) = some (m.cells (.slice A1 m.lt.ti.length k1) (.slice A2 m.lt.li.length k2)).size := hszp))
                  | (with_reducible (show wpList _ _ _ (⟨none, Op.store _ (Operand.tmp 11) _, _, _, _, _⟩ :: _) _ _); go_must (refine wpList_store_row rfl 34 (.tmp 11) (.tmp 58) rfl w5.heap.size (m.cells (.slice A1 m.lt.ti.length k1) (.slice A2 m.lt.li.length k2)) rfl rfl 34 PZ (heap_alloc_new w5 _) hszX hold.out hone.out ?_)))
                obtain ⟨rx, bx⟩ := new_row w5 (m.cells (.slice A1 m.lt.ti.length k1) (.slice A2 m.lt.li.length k2))
                have HBA := Lib.hid (acc HB5.out bx)
                have sx1 := HX1.out.below bx
                have sx2 := HX2.out.below bx
                obtain ⟨bX, hbX⟩ : ∃ n, w5.heap.size = n := ⟨_, rfl⟩
                obtain ⟨wa, hwa⟩ : ∃ w, ((w5.alloc (.cells PZ 34)).setRow w5.heap.size (m.cells (.slice A1 m.lt.ti.length k1) (.slice A2 m.lt.li.length k2))) = w := ⟨_, rfl⟩
                rw [hwa] at rx HBA sx1 sx2 ⊢
                rw [hbX] at rx ⊢
                clear bx hwa hbX hone hold hszX HB5 HX1 HX2
                go_upto_region 12 with (first
                  | (go_at_call 15; ((with_reducible refine (CD.out _).mono ?_); rintro e w6 ⟨hb6, A3, k3, A4, k4, rfl, hy1, hy2⟩; have HB6 := Lib.hid hb6; clear hb6; have HY1 := Lib.hid hy1; have HY2 := Lib.hid hy2; clear hy1 hy2; have hone : Hid ((m.cells (.slice A3 m.lt.ti.length k3) (.slice A4 m.lt.li.length k4)).all (·.oneCell') = true) := (by show _ = _; first | kernel_rfl | simp [PV.cells, Value.oneCell']); have hold : Hid (PZ.size = (m.cells (.slice A3 m.lt.ti.length k3) (.slice A4 m.lt.li.length k4)).size) := rfl; have hszX : (Try.prog.info? 34).map (·.size) = some (m.cells (.slice A3 m.lt.ti.length k3) (.slice A4 m.lt.li.length k4)).size := hszp))
                  | (with_reducible (show wpList _ _ _ (⟨none, Op.store _ (Operand.tmp 13) _, _, _, _, _⟩ :: _) _ _); go_must (refine wpList_store_row rfl 34 (.tmp 13) (.tmp 63) rfl w6.heap.size (m.cells (.slice A3 m.lt.ti.length k3) (.slice A4 m.lt.li.length k4)) rfl rfl 34 PZ (heap_alloc_new w6 _) hszX hold.out hone.out ?_)))
                obtain ⟨ry, by_⟩ := new_row w6 (m.cells (.slice A3 m.lt.ti.length k3) (.slice A4 m.lt.li.length k4))
                have hab := acc HB6.out by_
                have rx6 := (hab.block _ (lt_of_heap rx)).trans rx
                have HBB := Lib.hid (acc HBA.out hab)
                have sy1 := HY1.out.below by_
                have sy2 := HY2.out.below by_
                have sx1 := sx1.below hab
                have sx2 := sx2.below hab
                obtain ⟨bY, hbY⟩ : ∃ n, w6.heap.size = n := ⟨_, rfl⟩
                obtain ⟨wb, hwb⟩ : ∃ w, ((w6.alloc (.cells PZ 34)).setRow w6.heap.size (m.cells (.slice A3 m.lt.ti.length k3) (.slice A4 m.lt.li.length k4))) = w := ⟨_, rfl⟩
                rw [hwb] at rx6 ry HBB sx1 sx2 sy1 sy2 ⊢
                rw [hbY] at ry ⊢
                have hw1 := acc (acc HBL.out HB.out) HBB.out
                have HRB : Hid (∀ w, Below wb.heap.size wb w → w.heap[bX]? = some (.cells (m.cells (.slice A1 m.lt.ti.length k1) (.slice A2 m.lt.li.length k2)) 34) ∧ w.heap[bY]? = some (.cells (m.cells (.slice A3 m.lt.ti.length k3) (.slice A4 m.lt.li.length k4)) 34) ∧ w.heap[W.heap.size]? = some (.cells (q.cells S1 S2) 34)) := fun w h => ⟨(h.block _ (lt_of_heap rx6)).trans rx6, (h.block _ (lt_of_heap ry)).trans ry, (HR.out w (acc hw1 h)).1⟩
                have K0 : Hid (Below wb.heap.size wb wb) := Below.refl _ _
                have hszX : (Try.prog.info? 34).map (·.size) = some (m.cells (.slice A1 m.lt.ti.length k1) (.slice A2 m.lt.li.length k2)).size := hszp
                have hszY : (Try.prog.info? 34).map (·.size) = some (m.cells (.slice A3 m.lt.ti.length k3) (.slice A4 m.lt.li.length k4)).size := hszp
                have CS : Hid (∀ w, Below wb.heap.size wb w → Calls Try.prog 16 #[.agg (m.cells (.slice A1 m.lt.ti.length k1) (.slice A2 m.lt.li.length k2)), .agg (m.cells (.slice A3 m.lt.ti.length k3) (.slice A4 m.lt.li.length k4))] w fun e w' => e = .returned (.bool true) ∧ Below w.heap.size w w') := fun w h => same_packet m _ _ _ _ w (sx1.below h) (sx2.below h) (sy1.below h) (sy2.below h)
                clear hab rx rx6 ry hwb hbY by_ hw1 hone hold sx1 sx2 sy1 sy2 HY1 HY2 HB6 HBA
                go_wp2_with (first
                  | (with_reducible (show wpList _ _ _ (⟨some _, Op.load _ (Operand.tmp 11), _, _, _, _⟩ :: _) _ _); go_must (refine wpList_load_rowH (by kernel_rfl) 34 (.tmp 11) rfl bX rfl 34 (m.cells (.slice A1 m.lt.ti.length k1) (.slice A2 m.lt.li.length k2)) (0, 0) _ (HRB.out _ (by first | exact K2.out | exact K1.out | exact K0.out)).1 Try.underlying34 rfl hszX ?_))
                  | (with_reducible (show wpList _ _ _ (⟨some _, Op.load _ (Operand.tmp 13), _, _, _, _⟩ :: _) _ _); go_must (refine wpList_load_rowH (by kernel_rfl) 34 (.tmp 13) rfl bY rfl 34 (m.cells (.slice A3 m.lt.ti.length k3) (.slice A4 m.lt.li.length k4)) (0, 0) _ (HRB.out _ (by first | exact K2.out | exact K1.out | exact K0.out)).2.1 Try.underlying34 rfl hszY ?_))
                  | (go_at_call 16; ((with_reducible refine (CS.out _ K0.out).mono ?_); rintro e w7 ⟨rfl, hb7⟩; have K1 := Lib.hid (acc K0.out hb7); clear hb7)))
                go_roundg (gk - 1)
                case measure => omega
                case rel => exact ⟨i + 1, by omega, by omega, by go_num, acc HB.out (acc HBB.out K1.out)⟩
            | true =>
              cases hg : getP c with
              | none =>
                rw [hg] at cg cd
                have CG := Lib.hid cg
                have CD := Lib.hid cd
                clear cg cd hg
                go_upto_region 11 with (first
                  | (go_at_call 14; ((with_reducible refine (CG.out _).mono ?_); rintro e w5 ⟨hb5, rfl⟩; have HB5 := Lib.hid hb5; clear hb5; have hone : Hid (PZ.all (·.oneCell') = true) := (by show _ = _; first | kernel_rfl | simp [PV.cells, Value.oneCell']); have hold : Hid (PZ.size = PZ.size) := rfl; have hszX : (Try.prog.info? 34).map (·.size) = some PZ.size := hszp))
                  | (with_reducible (show wpList _ _ _ (⟨none, Op.store _ (Operand.tmp 11) _, _, _, _, _⟩ :: _) _ _); go_must (refine wpList_store_row rfl 34 (.tmp 11) (.tmp 58) rfl w5.heap.size PZ rfl rfl 34 PZ (heap_alloc_new w5 _) hszX rfl hone.out ?_)))
                obtain ⟨rx, bx⟩ := new_row w5 PZ
                have HBA := Lib.hid (acc HB5.out bx)
                obtain ⟨bX, hbX⟩ : ∃ n, w5.heap.size = n := ⟨_, rfl⟩
                obtain ⟨wa, hwa⟩ : ∃ w, ((w5.alloc (.cells PZ 34)).setRow w5.heap.size PZ) = w := ⟨_, rfl⟩
                rw [hwa] at rx HBA ⊢
                rw [hbX] at rx ⊢
                clear bx hwa hbX hone hold hszX HB5
                go_upto_region 12 with (first
                  | (go_at_call 15; ((with_reducible refine (CD.out _).mono ?_); rintro e w6 ⟨hb6, rfl⟩; have HB6 := Lib.hid hb6; clear hb6; have hone : Hid (PZ.all (·.oneCell') = true) := (by show _ = _; first | kernel_rfl | simp [PV.cells, Value.oneCell']); have hold : Hid (PZ.size = PZ.size) := rfl; have hszX : (Try.prog.info? 34).map (·.size) = some PZ.size := hszp))
                  | (with_reducible (show wpList _ _ _ (⟨none, Op.store _ (Operand.tmp 13) _, _, _, _, _⟩ :: _) _ _); go_must (refine wpList_store_row rfl 34 (.tmp 13) (.tmp 63) rfl w6.heap.size PZ rfl rfl 34 PZ (heap_alloc_new w6 _) hszX rfl hone.out ?_)))
                obtain ⟨ry, by_⟩ := new_row w6 PZ
                have hab := acc HB6.out by_
                have rx6 := (hab.block _ (lt_of_heap rx)).trans rx
                have HBB := Lib.hid (acc HBA.out hab)
                obtain ⟨bY, hbY⟩ : ∃ n, w6.heap.size = n := ⟨_, rfl⟩
                obtain ⟨wb, hwb⟩ : ∃ w, ((w6.alloc (.cells PZ 34)).setRow w6.heap.size PZ) = w := ⟨_, rfl⟩
                rw [hwb] at rx6 ry HBB ⊢
                rw [hbY] at ry ⊢
                have hw1 := acc (acc HBL.out HB.out) HBB.out
                have HRB : Hid (∀ w, Below wb.heap.size wb w → w.heap[bX]? = some (.cells PZ 34) ∧ w.heap[bY]? = some (.cells PZ 34) ∧ w.heap[W.heap.size]? = some (.cells (q.cells S1 S2) 34)) := fun w h => ⟨(h.block _ (lt_of_heap rx6)).trans rx6, (h.block _ (lt_of_heap ry)).trans ry, (HR.out w (acc hw1 h)).1⟩
                have K0 : Hid (Below wb.heap.size wb wb) := Below.refl _ _
                have hszX : (Try.prog.info? 34).map (·.size) = some PZ.size := hszp
                have hszY : (Try.prog.info? 34).map (·.size) = some PZ.size := hszp
                have CS : Hid (∀ w, Below wb.heap.size wb w → Calls Try.prog 16 #[.agg PZ, .agg PZ] w fun e w' => e = .returned (.bool true) ∧ Below w.heap.size w w') := fun w _ => same_zero w
                clear hab rx rx6 ry hwb hbY by_ hw1 hone hold HB6 HBA
                go_wp2_with (first
                  | (with_reducible (show wpList _ _ _ (⟨some _, Op.load _ (Operand.tmp 11), _, _, _, _⟩ :: _) _ _); go_must (refine wpList_load_rowH (by kernel_rfl) 34 (.tmp 11) rfl bX rfl 34 PZ (0, 0) _ (HRB.out _ (by first | exact K2.out | exact K1.out | exact K0.out)).1 Try.underlying34 rfl hszX ?_))
                  | (with_reducible (show wpList _ _ _ (⟨some _, Op.load _ (Operand.tmp 13), _, _, _, _⟩ :: _) _ _); go_must (refine wpList_load_rowH (by kernel_rfl) 34 (.tmp 13) rfl bY rfl 34 PZ (0, 0) _ (HRB.out _ (by first | exact K2.out | exact K1.out | exact K0.out)).2.1 Try.underlying34 rfl hszY ?_))
                  | (go_at_call 16; ((with_reducible refine (CS.out _ K0.out).mono ?_); rintro e w7 ⟨rfl, hb7⟩; have K1 := Lib.hid (acc K0.out hb7); clear hb7)))
                go_roundg (gk - 1)
                case measure => omega
                case rel => exact ⟨i + 1, by omega, by omega, by go_num, acc HB.out (acc HBB.out K1.out)⟩
              | some m =>
                rw [hg] at cg cd
                have CG := Lib.hid cg
                have CD := Lib.hid cd
                clear cg cd hg
                go_upto_region 11 with (first
                  | (go_at_call 14; ((with_reducible refine (CG.out _).mono ?_); rintro e w5 ⟨hb5, A1, k1, A2, k2, rfl, hx1, hx2⟩; have HB5 := Lib.hid hb5; clear hb5; have HX1 := Lib.hid hx1; have HX2 := Lib.hid hx2; clear hx1 hx2; have hone : Hid ((m.cells (.slice A1 m.lt.ti.length k1) (.slice A2 m.lt.li.length k2)).all (·.oneCell') = true) := (by show _ = _; first | kernel_rfl | simp [PV.cells, Value.oneCell']); have hold : Hid (PZ.size = (m.cells (.slice A1 m.lt.ti.length k1) (.slice A2 m.lt.li.length k2)).size) := rfl; have hszX : (Try.prog.info? 34).map (·.size) = some (m.cells (.slice A1 m.lt.ti.length k1) (.slice A2 m.lt.li.length k2)).size := hszp))
                  | (with_reducible (show wpList _ _ _ (⟨none, Op.store _ (Operand.tmp 11) _, _, _, _, _⟩ :: _) _ _); go_must (refine wpList_store_row rfl 34 (.tmp 11) (.tmp 58) rfl w5.heap.size (m.cells (.slice A1 m.lt.ti.length k1) (.slice A2 m.lt.li.length k2)) rfl rfl 34 PZ (heap_alloc_new w5 _) hszX hold.out hone.out ?_)))
                obtain ⟨rx, bx⟩ := new_row w5 (m.cells (.slice A1 m.lt.ti.length k1) (.slice A2 m.lt.li.length k2))
                have HBA := Lib.hid (acc HB5.out bx)
                have sx1 := HX1.out.below bx
                have sx2 := HX2.out.below bx
                obtain ⟨bX, hbX⟩ : ∃ n, w5.heap.size = n := ⟨_, rfl⟩
                obtain ⟨wa, hwa⟩ : ∃ w, ((w5.alloc (.cells PZ 34)).setRow w5.heap.size (m.cells (.slice A1 m.lt.ti.length k1) (.slice A2 m.lt.li.length k2))) = w := ⟨_, rfl⟩
                rw [hwa] at rx HBA sx1 sx2 ⊢
                rw [hbX] at rx ⊢
                clear bx hwa hbX hone hold hszX HB5 HX1 HX2
                go_upto_region 12 with (first
                  | (go_at_call 15; ((with_reducible refine (CD.out _).mono ?_); rintro e w6 ⟨hb6, A3, k3, A4, k4, rfl, hy1, hy2⟩; have HB6 := Lib.hid hb6; clear hb6; have HY1 := Lib.hid hy1; have HY2 := Lib.hid hy2; clear hy1 hy2; have hone : Hid ((m.cells (.slice A3 m.lt.ti.length k3) (.slice A4 m.lt.li.length k4)).all (·.oneCell') = true) := (by show _ = _; first | kernel_rfl | simp [PV.cells, Value.oneCell']); have hold : Hid (PZ.size = (m.cells (.slice A3 m.lt.ti.length k3) (.slice A4 m.lt.li.length k4)).size) := rfl; have hszX : (Try.prog.info? 34).map (·.size) = some (m.cells (.slice A3 m.lt.ti.length k3) (.slice A4 m.lt.li.length k4)).size := hszp))
                  | (with_reducible (show wpList _ _ _ (⟨none, Op.store _ (Operand.tmp 13) _, _, _, _, _⟩ :: _) _ _); go_must (refine wpList_store_row rfl 34 (.tmp 13) (.tmp 63) rfl w6.heap.size (m.cells (.slice A3 m.lt.ti.length k3) (.slice A4 m.lt.li.length k4)) rfl rfl 34 PZ (heap_alloc_new w6 _) hszX hold.out hone.out ?_)))
                obtain ⟨ry, by_⟩ := new_row w6 (m.cells (.slice A3 m.lt.ti.length k3) (.slice A4 m.lt.li.length k4))
                have hab := acc HB6.out by_
                have rx6 := (hab.block _ (lt_of_heap rx)).trans rx
                have HBB := Lib.hid (acc HBA.out hab)
                have sy1 := HY1.out.below by_
                have sy2 := HY2.out.below by_
                have sx1 := sx1.below hab
                have sx2 := sx2.below hab
                obtain ⟨bY, hbY⟩ : ∃ n, w6.heap.size = n := ⟨_, rfl⟩
                obtain ⟨wb, hwb⟩ : ∃ w, ((w6.alloc (.cells PZ 34)).setRow w6.heap.size (m.cells (.slice A3 m.lt.ti.length k3) (.slice A4 m.lt.li.length k4))) = w := ⟨_, rfl⟩
                rw [hwb] at rx6 ry HBB sx1 sx2 sy1 sy2 ⊢
                rw [hbY] at ry ⊢
                have hw1 := acc (acc HBL.out HB.out) HBB.out
                have HRB : Hid (∀ w, Below wb.heap.size wb w → w.heap[bX]? = some (.cells (m.cells (.slice A1 m.lt.ti.length k1) (.slice A2 m.lt.li.length k2)) 34) ∧ w.heap[bY]? = some (.cells (m.cells (.slice A3 m.lt.ti.length k3) (.slice A4 m.lt.li.length k4)) 34) ∧ w.heap[W.heap.size]? = some (.cells (q.cells S1 S2) 34)) := fun w h => ⟨(h.block _ (lt_of_heap rx6)).trans rx6, (h.block _ (lt_of_heap ry)).trans ry, (HR.out w (acc hw1 h)).1⟩
                have K0 : Hid (Below wb.heap.size wb wb) := Below.refl _ _
                have hszX : (Try.prog.info? 34).map (·.size) = some (m.cells (.slice A1 m.lt.ti.length k1) (.slice A2 m.lt.li.length k2)).size := hszp
                have hszY : (Try.prog.info? 34).map (·.size) = some (m.cells (.slice A3 m.lt.ti.length k3) (.slice A4 m.lt.li.length k4)).size := hszp
                have CS : Hid (∀ w, Below wb.heap.size wb w → Calls Try.prog 16 #[.agg (m.cells (.slice A1 m.lt.ti.length k1) (.slice A2 m.lt.li.length k2)), .agg (m.cells (.slice A3 m.lt.ti.length k3) (.slice A4 m.lt.li.length k4))] w fun e w' => e = .returned (.bool true) ∧ Below w.heap.size w w') := fun w h => same_packet m _ _ _ _ w (sx1.below h) (sx2.below h) (sy1.below h) (sy2.below h)
                clear hab rx rx6 ry hwb hbY by_ hw1 hone hold sx1 sx2 sy1 sy2 HY1 HY2 HB6 HBA
                go_wp2_with (first
                  | (with_reducible (show wpList _ _ _ (⟨some _, Op.load _ (Operand.tmp 11), _, _, _, _⟩ :: _) _ _); go_must (refine wpList_load_rowH (by kernel_rfl) 34 (.tmp 11) rfl bX rfl 34 (m.cells (.slice A1 m.lt.ti.length k1) (.slice A2 m.lt.li.length k2)) (0, 0) _ (HRB.out _ (by first | exact K2.out | exact K1.out | exact K0.out)).1 Try.underlying34 rfl hszX ?_))
                  | (with_reducible (show wpList _ _ _ (⟨some _, Op.load _ (Operand.tmp 13), _, _, _, _⟩ :: _) _ _); go_must (refine wpList_load_rowH (by kernel_rfl) 34 (.tmp 13) rfl bY rfl 34 (m.cells (.slice A3 m.lt.ti.length k3) (.slice A4 m.lt.li.length k4)) (0, 0) _ (HRB.out _ (by first | exact K2.out | exact K1.out | exact K0.out)).2.1 Try.underlying34 rfl hszY ?_))
                  | (go_at_call 16; ((with_reducible refine (CS.out _ K0.out).mono ?_); rintro e w7 ⟨rfl, hb7⟩; have K1 := Lib.hid (acc K0.out hb7); clear hb7)))
                go_roundg (gk - 1)
                case measure => omega
                case rel => exact ⟨i + 1, by omega, by omega, by go_num, acc HB.out (acc HBB.out K1.out)⟩
          · obtain rfl : i = 2 := by omega
            have bi : decide (((2 : Nat) : Int) < 2) = false := by decide
            go_wp2
            go_ret
            exact ⟨rfl, UP.out _ (acc HBL.out HB.out)⟩
      | some b0 =>
        rw [hp] at pp dp
        have CP : Hid (∀ w, Below (W.alloc (.cells (q.cells S1 S2) 34)).heap.size (W.alloc (.cells (q.cells S1 S2) 34)) w → Calls Try.prog 12 #[.agg (q.cells S1 S2)] w fun e w' => e = .returned (.tuple #[.string b0, .bool true]) ∧ Below w.heap.size w w') := pp
        have CQP : Hid (∀ w, Below (W.alloc (.cells (q.cells S1 S2) 34)).heap.size (W.alloc (.cells (q.cells S1 S2) 34)) w → Calls Try.prog 13 #[.agg (q.cells S1 S2)] w fun e w' => e = .returned (.tuple #[.string b0, .bool true]) ∧ Below w.heap.size w w') := dp
        have hs0 := (putP_size hp).1
        have HGS := Lib.hid (getP_same hF hp)
        have HBS : Hid ((b0 : ByteArray).size ≤ 9223372036854775807 ∧ b.size ≤ 9223372036854775807) := ⟨by omega, hb0⟩
        clear pp dp hp hF hb0 h3 hs0
        go_enter Try.func3, Try.ntmps3
        go_wp2_with (first
          | (with_reducible (show wpList _ _ _ (⟨some _, Op.load _ (Operand.tmp 15), _, _, _, _⟩ :: _) _ _); go_must (refine wpList_load_mid rfl 32 (.tmp 15) rfl W.heap.size 4 rfl (q.lt.cellsL S1 S2) _ (HR.out _ (by first | exact HB4.out | exact HB3.out | exact HB2.out | exact HB1.out | exact HB0.out)).2 Try.underlying32 rfl hszl ?_))
          | (with_reducible (show wpList _ _ _ (⟨some _, Op.load _ (Operand.tmp 2), _, _, _, _⟩ :: _) _ _); go_must (refine wpList_load_row rfl 34 (.tmp 2) rfl W.heap.size rfl 34 (q.cells S1 S2) (0, 0) _ (HR.out _ (by first | exact HB4.out | exact HB3.out | exact HB2.out | exact HB1.out | exact HB0.out)).1 Try.underlying34 rfl hszp ?_))
          | (go_at_call 10; ((with_reducible refine (CL.out _ HB0.out).mono ?_); rintro e w1 ⟨rfl, hb⟩; have HB1 : Hid (Below (W.alloc (.cells (q.cells S1 S2) 34)).heap.size (W.alloc (.cells (q.cells S1 S2) 34)) w1) := acc HB0.out hb; clear hb))
          | (go_at_call 11; ((with_reducible refine (CA.out _ HB1.out).mono ?_); rintro e w2 ⟨rfl, hb⟩; have HB2 : Hid (Below (W.alloc (.cells (q.cells S1 S2) 34)).heap.size (W.alloc (.cells (q.cells S1 S2) 34)) w2) := acc HB1.out hb; clear hb))
          | (go_at_call 12; ((with_reducible refine (CP.out _ HB2.out).mono ?_); rintro e w3 ⟨rfl, hb⟩; have HB3 : Hid (Below (W.alloc (.cells (q.cells S1 S2) 34)).heap.size (W.alloc (.cells (q.cells S1 S2) 34)) w3) := acc HB2.out hb; clear hb))
          | (go_at_call 13; ((with_reducible refine (CQP.out _ HB3.out).mono ?_); rintro e w4 ⟨rfl, hb⟩; have HB4 : Hid (Below (W.alloc (.cells (q.cells S1 S2) 34)).heap.size (W.alloc (.cells (q.cells S1 S2) 34)) w4) := acc HB3.out hb; clear hb)))
        have HBL : Hid (Below (W.alloc (.cells (q.cells S1 S2) 34)).heap.size (W.alloc (.cells (q.cells S1 S2) 34)) (w4.alloc (.cells #[.string b0, .string b] 9))) := accA HB4.out _
        have hrowl : (w4.alloc (.cells #[.string b0, .string b] 9)).heap[w4.heap.size]? = some (.cells #[.string b0, .string b] 9) := heap_alloc_new w4 _
        have HCL : Hid (∀ w, Below (w4.alloc (.cells #[.string b0, .string b] 9)).heap.size (w4.alloc (.cells #[.string b0, .string b] 9)) w → w.cell? ⟨w4.heap.size, 0, none⟩ = some (.string b0) ∧ w.cell? ⟨w4.heap.size, 1, none⟩ = some (.string b)) := fun w h => by
          have e := (h.block _ (lt_of_heap hrowl)).trans hrowl
          exact ⟨cell_at e rfl, cell_at e rfl⟩
        clear hrowl
        go_loopg [51] 3 (fun z s51 wx => ∃ (i : Nat), i + z = 3 ∧ i ≤ 2 ∧ s51 = .int .i64 (i : Nat) ∧ Hid (Below (w4.alloc (.cells #[.string b0, .string b] 9)).heap.size (w4.alloc (.cells #[.string b0, .string b] 9)) wx))
        case atStart => exact ⟨0, by omega, by omega, rfl, Below.refl _ _⟩
        case round =>
          obtain ⟨i, hiz, hi2, rfl, HB⟩ := hrel
          by_cases hi : i < 2
          · have bi : decide ((i : Int) < 2) = true := by simp; omega
            have bj : (i : Int) < 2 := by omega
            obtain ⟨c, hc, hcs⟩ : ∃ c, wr.cell? ⟨w4.heap.size, i, none⟩ = some (.string c) ∧ c.size ≤ 9223372036854775807 := by
              obtain ⟨y0, y1⟩ := HCL.out wr HB.out
              have hc : i = 0 ∨ i = 1 := by omega
              rcases hc with rfl | rfl
              · exact ⟨_, y0, HBS.out.1⟩
              · exact ⟨_, y1, HBS.out.2⟩
            have cg := fun w => gp_any c w hcs
            have cd := fun w => dgp_any c w hcs
            clear hcs
            cases de : (c.toList == b0.toList) with
            | false =>
              cases hg : getP c with
              | none =>
                rw [hg] at cg cd
                have CG := Lib.hid cg
                have CD := Lib.hid cd
                clear cg cd hg
                go_upto_region 11 with (first
                  | (go_at_call 14; ((with_reducible refine (CG.out _).mono ?_); rintro e w5 ⟨hb5, rfl⟩; have HB5 := Lib.hid hb5; clear hb5; have hone : Hid (PZ.all (·.oneCell') = true) := (by show _ = _; first | kernel_rfl | simp [PV.cells, Value.oneCell']); have hold : Hid (PZ.size = PZ.size) := rfl; have hszX : (Try.prog.info? 34).map (·.size) = some PZ.size := hszp))
                  | (with_reducible (show wpList _ _ _ (⟨none, Op.store _ (Operand.tmp 11) _, _, _, _, _⟩ :: _) _ _); go_must (refine wpList_store_row rfl 34 (.tmp 11) (.tmp 58) rfl w5.heap.size PZ rfl rfl 34 PZ (heap_alloc_new w5 _) hszX rfl hone.out ?_)))
                obtain ⟨rx, bx⟩ := new_row w5 PZ
                have HBA := Lib.hid (acc HB5.out bx)
                obtain ⟨bX, hbX⟩ : ∃ n, w5.heap.size = n := ⟨_, rfl⟩
                obtain ⟨wa, hwa⟩ : ∃ w, ((w5.alloc (.cells PZ 34)).setRow w5.heap.size PZ) = w := ⟨_, rfl⟩
                rw [hwa] at rx HBA ⊢
                rw [hbX] at rx ⊢
                clear bx hwa hbX hone hold hszX HB5
                go_upto_region 12 with (first
                  | (go_at_call 15; ((with_reducible refine (CD.out _).mono ?_); rintro e w6 ⟨hb6, rfl⟩; have HB6 := Lib.hid hb6; clear hb6; have hone : Hid (PZ.all (·.oneCell') = true) := (by show _ = _; first | kernel_rfl | simp [PV.cells, Value.oneCell']); have hold : Hid (PZ.size = PZ.size) := rfl; have hszX : (Try.prog.info? 34).map (·.size) = some PZ.size := hszp))
                  | (with_reducible (show wpList _ _ _ (⟨none, Op.store _ (Operand.tmp 13) _, _, _, _, _⟩ :: _) _ _); go_must (refine wpList_store_row rfl 34 (.tmp 13) (.tmp 63) rfl w6.heap.size PZ rfl rfl 34 PZ (heap_alloc_new w6 _) hszX rfl hone.out ?_)))
                obtain ⟨ry, by_⟩ := new_row w6 PZ
                have hab := acc HB6.out by_
                have rx6 := (hab.block _ (lt_of_heap rx)).trans rx
                have HBB := Lib.hid (acc HBA.out hab)
                obtain ⟨bY, hbY⟩ : ∃ n, w6.heap.size = n := ⟨_, rfl⟩
                obtain ⟨wb, hwb⟩ : ∃ w, ((w6.alloc (.cells PZ 34)).setRow w6.heap.size PZ) = w := ⟨_, rfl⟩
                rw [hwb] at rx6 ry HBB ⊢
                rw [hbY] at ry ⊢
                have hw1 := acc (acc HBL.out HB.out) HBB.out
                have HRB : Hid (∀ w, Below wb.heap.size wb w → w.heap[bX]? = some (.cells PZ 34) ∧ w.heap[bY]? = some (.cells PZ 34) ∧ w.heap[W.heap.size]? = some (.cells (q.cells S1 S2) 34)) := fun w h => ⟨(h.block _ (lt_of_heap rx6)).trans rx6, (h.block _ (lt_of_heap ry)).trans ry, (HR.out w (acc hw1 h)).1⟩
                have K0 : Hid (Below wb.heap.size wb wb) := Below.refl _ _
                have hszX : (Try.prog.info? 34).map (·.size) = some PZ.size := hszp
                have hszY : (Try.prog.info? 34).map (·.size) = some PZ.size := hszp
                have CS : Hid (∀ w, Below wb.heap.size wb w → Calls Try.prog 16 #[.agg PZ, .agg PZ] w fun e w' => e = .returned (.bool true) ∧ Below w.heap.size w w') := fun w _ => same_zero w
                clear hab rx rx6 ry hwb hbY by_ hw1 hone hold HB6 HBA
                go_wp2_with (first
                  | (with_reducible (show wpList _ _ _ (⟨some _, Op.load _ (Operand.tmp 11), _, _, _, _⟩ :: _) _ _); go_must (refine wpList_load_rowH (by kernel_rfl) 34 (.tmp 11) rfl bX rfl 34 PZ (0, 0) _ (HRB.out _ (by first | exact K2.out | exact K1.out | exact K0.out)).1 Try.underlying34 rfl hszX ?_))
                  | (with_reducible (show wpList _ _ _ (⟨some _, Op.load _ (Operand.tmp 13), _, _, _, _⟩ :: _) _ _); go_must (refine wpList_load_rowH (by kernel_rfl) 34 (.tmp 13) rfl bY rfl 34 PZ (0, 0) _ (HRB.out _ (by first | exact K2.out | exact K1.out | exact K0.out)).2.1 Try.underlying34 rfl hszY ?_))
                  | (go_at_call 16; ((with_reducible refine (CS.out _ K0.out).mono ?_); rintro e w7 ⟨rfl, hb7⟩; have K1 := Lib.hid (acc K0.out hb7); clear hb7)))
                go_roundg (gk - 1)
                case measure => omega
                case rel => exact ⟨i + 1, by omega, by omega, by go_num, acc HB.out (acc HBB.out K1.out)⟩
              | some m =>
                rw [hg] at cg cd
                have CG := Lib.hid cg
                have CD := Lib.hid cd
                clear cg cd hg
                go_upto_region 11 with (first
                  | (go_at_call 14; ((with_reducible refine (CG.out _).mono ?_); rintro e w5 ⟨hb5, A1, k1, A2, k2, rfl, hx1, hx2⟩; have HB5 := Lib.hid hb5; clear hb5; have HX1 := Lib.hid hx1; have HX2 := Lib.hid hx2; clear hx1 hx2; have hone : Hid ((m.cells (.slice A1 m.lt.ti.length k1) (.slice A2 m.lt.li.length k2)).all (·.oneCell') = true) := (by show _ = _; first | kernel_rfl | simp [PV.cells, Value.oneCell']); have hold : Hid (PZ.size = (m.cells (.slice A1 m.lt.ti.length k1) (.slice A2 m.lt.li.length k2)).size) := rfl; have hszX : (Try.prog.info? 34).map (·.size) = some (m.cells (.slice A1 m.lt.ti.length k1) (.slice A2 m.lt.li.length k2)).size := hszp))
                  | (with_reducible (show wpList _ _ _ (⟨none, Op.store _ (Operand.tmp 11) _, _, _, _, _⟩ :: _) _ _); go_must (refine wpList_store_row rfl 34 (.tmp 11) (.tmp 58) rfl w5.heap.size (m.cells (.slice A1 m.lt.ti.length k1) (.slice A2 m.lt.li.length k2)) rfl rfl 34 PZ (heap_alloc_new w5 _) hszX hold.out hone.out ?_)))
                obtain ⟨rx, bx⟩ := new_row w5 (m.cells (.slice A1 m.lt.ti.length k1) (.slice A2 m.lt.li.length k2))
                have HBA := Lib.hid (acc HB5.out bx)
                have sx1 := HX1.out.below bx
                have sx2 := HX2.out.below bx
                obtain ⟨bX, hbX⟩ : ∃ n, w5.heap.size = n := ⟨_, rfl⟩
                obtain ⟨wa, hwa⟩ : ∃ w, ((w5.alloc (.cells PZ 34)).setRow w5.heap.size (m.cells (.slice A1 m.lt.ti.length k1) (.slice A2 m.lt.li.length k2))) = w := ⟨_, rfl⟩
                rw [hwa] at rx HBA sx1 sx2 ⊢
                rw [hbX] at rx ⊢
                clear bx hwa hbX hone hold hszX HB5 HX1 HX2
                go_upto_region 12 with (first
                  | (go_at_call 15; ((with_reducible refine (CD.out _).mono ?_); rintro e w6 ⟨hb6, A3, k3, A4, k4, rfl, hy1, hy2⟩; have HB6 := Lib.hid hb6; clear hb6; have HY1 := Lib.hid hy1; have HY2 := Lib.hid hy2; clear hy1 hy2; have hone : Hid ((m.cells (.slice A3 m.lt.ti.length k3) (.slice A4 m.lt.li.length k4)).all (·.oneCell') = true) := (by show _ = _; first | kernel_rfl | simp [PV.cells, Value.oneCell']); have hold : Hid (PZ.size = (m.cells (.slice A3 m.lt.ti.length k3) (.slice A4 m.lt.li.length k4)).size) := rfl; have hszX : (Try.prog.info? 34).map (·.size) = some (m.cells (.slice A3 m.lt.ti.length k3) (.slice A4 m.lt.li.length k4)).size := hszp))
                  | (with_reducible (show wpList _ _ _ (⟨none, Op.store _ (Operand.tmp 13) _, _, _, _, _⟩ :: _) _ _); go_must (refine wpList_store_row rfl 34 (.tmp 13) (.tmp 63) rfl w6.heap.size (m.cells (.slice A3 m.lt.ti.length k3) (.slice A4 m.lt.li.length k4)) rfl rfl 34 PZ (heap_alloc_new w6 _) hszX hold.out hone.out ?_)))
                obtain ⟨ry, by_⟩ := new_row w6 (m.cells (.slice A3 m.lt.ti.length k3) (.slice A4 m.lt.li.length k4))
                have hab := acc HB6.out by_
                have rx6 := (hab.block _ (lt_of_heap rx)).trans rx
                have HBB := Lib.hid (acc HBA.out hab)
                have sy1 := HY1.out.below by_
                have sy2 := HY2.out.below by_
                have sx1 := sx1.below hab
                have sx2 := sx2.below hab
                obtain ⟨bY, hbY⟩ : ∃ n, w6.heap.size = n := ⟨_, rfl⟩
                obtain ⟨wb, hwb⟩ : ∃ w, ((w6.alloc (.cells PZ 34)).setRow w6.heap.size (m.cells (.slice A3 m.lt.ti.length k3) (.slice A4 m.lt.li.length k4))) = w := ⟨_, rfl⟩
                rw [hwb] at rx6 ry HBB sx1 sx2 sy1 sy2 ⊢
                rw [hbY] at ry ⊢
                have hw1 := acc (acc HBL.out HB.out) HBB.out
                have HRB : Hid (∀ w, Below wb.heap.size wb w → w.heap[bX]? = some (.cells (m.cells (.slice A1 m.lt.ti.length k1) (.slice A2 m.lt.li.length k2)) 34) ∧ w.heap[bY]? = some (.cells (m.cells (.slice A3 m.lt.ti.length k3) (.slice A4 m.lt.li.length k4)) 34) ∧ w.heap[W.heap.size]? = some (.cells (q.cells S1 S2) 34)) := fun w h => ⟨(h.block _ (lt_of_heap rx6)).trans rx6, (h.block _ (lt_of_heap ry)).trans ry, (HR.out w (acc hw1 h)).1⟩
                have K0 : Hid (Below wb.heap.size wb wb) := Below.refl _ _
                have hszX : (Try.prog.info? 34).map (·.size) = some (m.cells (.slice A1 m.lt.ti.length k1) (.slice A2 m.lt.li.length k2)).size := hszp
                have hszY : (Try.prog.info? 34).map (·.size) = some (m.cells (.slice A3 m.lt.ti.length k3) (.slice A4 m.lt.li.length k4)).size := hszp
                have CS : Hid (∀ w, Below wb.heap.size wb w → Calls Try.prog 16 #[.agg (m.cells (.slice A1 m.lt.ti.length k1) (.slice A2 m.lt.li.length k2)), .agg (m.cells (.slice A3 m.lt.ti.length k3) (.slice A4 m.lt.li.length k4))] w fun e w' => e = .returned (.bool true) ∧ Below w.heap.size w w') := fun w h => same_packet m _ _ _ _ w (sx1.below h) (sx2.below h) (sy1.below h) (sy2.below h)
                clear hab rx rx6 ry hwb hbY by_ hw1 hone hold sx1 sx2 sy1 sy2 HY1 HY2 HB6 HBA
                go_wp2_with (first
                  | (with_reducible (show wpList _ _ _ (⟨some _, Op.load _ (Operand.tmp 11), _, _, _, _⟩ :: _) _ _); go_must (refine wpList_load_rowH (by kernel_rfl) 34 (.tmp 11) rfl bX rfl 34 (m.cells (.slice A1 m.lt.ti.length k1) (.slice A2 m.lt.li.length k2)) (0, 0) _ (HRB.out _ (by first | exact K2.out | exact K1.out | exact K0.out)).1 Try.underlying34 rfl hszX ?_))
                  | (with_reducible (show wpList _ _ _ (⟨some _, Op.load _ (Operand.tmp 13), _, _, _, _⟩ :: _) _ _); go_must (refine wpList_load_rowH (by kernel_rfl) 34 (.tmp 13) rfl bY rfl 34 (m.cells (.slice A3 m.lt.ti.length k3) (.slice A4 m.lt.li.length k4)) (0, 0) _ (HRB.out _ (by first | exact K2.out | exact K1.out | exact K0.out)).2.1 Try.underlying34 rfl hszY ?_))
                  | (go_at_call 16; ((with_reducible refine (CS.out _ K0.out).mono ?_); rintro e w7 ⟨rfl, hb7⟩; have K1 := Lib.hid (acc K0.out hb7); clear hb7)))
                go_roundg (gk - 1)
                case measure => omega
                case rel => exact ⟨i + 1, by omega, by omega, by go_num, acc HB.out (acc HBB.out K1.out)⟩
            | true =>
              obtain rfl := toList_inj (beq_iff_eq.1 de)
              have hg := HGS.out
              rw [hg] at cg cd
              have CG := Lib.hid cg
              have CD := Lib.hid cd
              clear cg cd hg
              go_upto_region 11 with (first
                | (go_at_call 14; ((with_reducible refine (CG.out _).mono ?_); rintro e w5 ⟨hb5, A1, k1, A2, k2, rfl, hx1, hx2⟩; have HB5 := Lib.hid hb5; clear hb5; have HX1 := Lib.hid hx1; have HX2 := Lib.hid hx2; clear hx1 hx2; have hone : Hid ((q.cells (.slice A1 q.lt.ti.length k1) (.slice A2 q.lt.li.length k2)).all (·.oneCell') = true) := (by show _ = _; first | kernel_rfl | simp [PV.cells, Value.oneCell']); have hold : Hid (PZ.size = (q.cells (.slice A1 q.lt.ti.length k1) (.slice A2 q.lt.li.length k2)).size) := rfl; have hszX : (Try.prog.info? 34).map (·.size) = some (q.cells (.slice A1 q.lt.ti.length k1) (.slice A2 q.lt.li.length k2)).size := hszp))
                | (with_reducible (show wpList _ _ _ (⟨none, Op.store _ (Operand.tmp 11) _, _, _, _, _⟩ :: _) _ _); go_must (refine wpList_store_row rfl 34 (.tmp 11) (.tmp 58) rfl w5.heap.size (q.cells (.slice A1 q.lt.ti.length k1) (.slice A2 q.lt.li.length k2)) rfl rfl 34 PZ (heap_alloc_new w5 _) hszX hold.out hone.out ?_)))
              obtain ⟨rx, bx⟩ := new_row w5 (q.cells (.slice A1 q.lt.ti.length k1) (.slice A2 q.lt.li.length k2))
              have HBA := Lib.hid (acc HB5.out bx)
              have sx1 := HX1.out.below bx
              have sx2 := HX2.out.below bx
              obtain ⟨bX, hbX⟩ : ∃ n, w5.heap.size = n := ⟨_, rfl⟩
              obtain ⟨wa, hwa⟩ : ∃ w, ((w5.alloc (.cells PZ 34)).setRow w5.heap.size (q.cells (.slice A1 q.lt.ti.length k1) (.slice A2 q.lt.li.length k2))) = w := ⟨_, rfl⟩
              rw [hwa] at rx HBA sx1 sx2 ⊢
              rw [hbX] at rx ⊢
              clear bx hwa hbX hone hold hszX HB5 HX1 HX2
              go_upto_region 12 with (first
                | (go_at_call 15; ((with_reducible refine (CD.out _).mono ?_); rintro e w6 ⟨hb6, A3, k3, A4, k4, rfl, hy1, hy2⟩; have HB6 := Lib.hid hb6; clear hb6; have HY1 := Lib.hid hy1; have HY2 := Lib.hid hy2; clear hy1 hy2; have hone : Hid ((q.cells (.slice A3 q.lt.ti.length k3) (.slice A4 q.lt.li.length k4)).all (·.oneCell') = true) := (by show _ = _; first | kernel_rfl | simp [PV.cells, Value.oneCell']); have hold : Hid (PZ.size = (q.cells (.slice A3 q.lt.ti.length k3) (.slice A4 q.lt.li.length k4)).size) := rfl; have hszX : (Try.prog.info? 34).map (·.size) = some (q.cells (.slice A3 q.lt.ti.length k3) (.slice A4 q.lt.li.length k4)).size := hszp))
                | (with_reducible (show wpList _ _ _ (⟨none, Op.store _ (Operand.tmp 13) _, _, _, _, _⟩ :: _) _ _); go_must (refine wpList_store_row rfl 34 (.tmp 13) (.tmp 63) rfl w6.heap.size (q.cells (.slice A3 q.lt.ti.length k3) (.slice A4 q.lt.li.length k4)) rfl rfl 34 PZ (heap_alloc_new w6 _) hszX hold.out hone.out ?_)))
              obtain ⟨ry, by_⟩ := new_row w6 (q.cells (.slice A3 q.lt.ti.length k3) (.slice A4 q.lt.li.length k4))
              have hab := acc HB6.out by_
              have rx6 := (hab.block _ (lt_of_heap rx)).trans rx
              have HBB := Lib.hid (acc HBA.out hab)
              have sy1 := HY1.out.below by_
              have sy2 := HY2.out.below by_
              have sx1 := sx1.below hab
              have sx2 := sx2.below hab
              obtain ⟨bY, hbY⟩ : ∃ n, w6.heap.size = n := ⟨_, rfl⟩
              obtain ⟨wb, hwb⟩ : ∃ w, ((w6.alloc (.cells PZ 34)).setRow w6.heap.size (q.cells (.slice A3 q.lt.ti.length k3) (.slice A4 q.lt.li.length k4))) = w := ⟨_, rfl⟩
              rw [hwb] at rx6 ry HBB sx1 sx2 sy1 sy2 ⊢
              rw [hbY] at ry ⊢
              have hw1 := acc (acc HBL.out HB.out) HBB.out
              have HRB : Hid (∀ w, Below wb.heap.size wb w → w.heap[bX]? = some (.cells (q.cells (.slice A1 q.lt.ti.length k1) (.slice A2 q.lt.li.length k2)) 34) ∧ w.heap[bY]? = some (.cells (q.cells (.slice A3 q.lt.ti.length k3) (.slice A4 q.lt.li.length k4)) 34) ∧ w.heap[W.heap.size]? = some (.cells (q.cells S1 S2) 34)) := fun w h => ⟨(h.block _ (lt_of_heap rx6)).trans rx6, (h.block _ (lt_of_heap ry)).trans ry, (HR.out w (acc hw1 h)).1⟩
              have K0 : Hid (Below wb.heap.size wb wb) := Below.refl _ _
              have hszX : (Try.prog.info? 34).map (·.size) = some (q.cells (.slice A1 q.lt.ti.length k1) (.slice A2 q.lt.li.length k2)).size := hszp
              have hszY : (Try.prog.info? 34).map (·.size) = some (q.cells (.slice A3 q.lt.ti.length k3) (.slice A4 q.lt.li.length k4)).size := hszp
              have CS : Hid (∀ w, Below wb.heap.size wb w → Calls Try.prog 16 #[.agg (q.cells (.slice A1 q.lt.ti.length k1) (.slice A2 q.lt.li.length k2)), .agg (q.cells (.slice A3 q.lt.ti.length k3) (.slice A4 q.lt.li.length k4))] w fun e w' => e = .returned (.bool true) ∧ Below w.heap.size w w') := fun w h => same_packet q _ _ _ _ w (sx1.below h) (sx2.below h) (sy1.below h) (sy2.below h)
              have CQ : Hid (∀ w, Below wb.heap.size wb w → Calls Try.prog 16 #[.agg (q.cells (.slice A1 q.lt.ti.length k1) (.slice A2 q.lt.li.length k2)), .agg (q.cells S1 S2)] w fun e w' => e = .returned (.bool true) ∧ Below w.heap.size w w') := fun w h => same_packet q _ _ _ _ w (sx1.below h) (sx2.below h) (HSL.out w (acc hw1 h)).1 (HSL.out w (acc hw1 h)).2
              clear hab rx rx6 ry hwb hbY by_ hw1 hone hold sx1 sx2 sy1 sy2 HY1 HY2 HB6 HBA
              go_wp2_with (first
                | (with_reducible (show wpList _ _ _ (⟨some _, Op.load _ (Operand.tmp 11), _, _, _, _⟩ :: _) _ _); go_must (refine wpList_load_rowH (by kernel_rfl) 34 (.tmp 11) rfl bX rfl 34 (q.cells (.slice A1 q.lt.ti.length k1) (.slice A2 q.lt.li.length k2)) (0, 0) _ (HRB.out _ (by first | exact K2.out | exact K1.out | exact K0.out)).1 Try.underlying34 rfl hszX ?_))
                | (with_reducible (show wpList _ _ _ (⟨some _, Op.load _ (Operand.tmp 13), _, _, _, _⟩ :: _) _ _); go_must (refine wpList_load_rowH (by kernel_rfl) 34 (.tmp 13) rfl bY rfl 34 (q.cells (.slice A3 q.lt.ti.length k3) (.slice A4 q.lt.li.length k4)) (0, 0) _ (HRB.out _ (by first | exact K2.out | exact K1.out | exact K0.out)).2.1 Try.underlying34 rfl hszY ?_))
                | (with_reducible (show wpList _ _ _ (⟨some _, Op.load _ (Operand.tmp 2), _, _, _, _⟩ :: _) _ _); go_must (refine wpList_load_rowH (by kernel_rfl) 34 (.tmp 2) rfl W.heap.size rfl 34 (q.cells S1 S2) (0, 0) _ (HRB.out _ (by first | exact K2.out | exact K1.out | exact K0.out)).2.2 Try.underlying34 rfl hszp ?_))
                | (go_at_call 16; ((with_reducible refine (CS.out _ K0.out).mono ?_); rintro e w7 ⟨rfl, hb7⟩; have K1 := Lib.hid (acc K0.out hb7); clear hb7))
                | (go_at_call 16; ((with_reducible refine (CQ.out _ K1.out).mono ?_); rintro e w8 ⟨rfl, hb8⟩; have K2 := Lib.hid (acc K1.out hb8); clear hb8)))
              go_roundg (gk - 1)
              case measure => omega
              case rel => exact ⟨i + 1, by omega, by omega, by go_num, acc HB.out (acc HBB.out K2.out)⟩
          · obtain rfl : i = 2 := by omega
            have bi : decide (((2 : Nat) : Int) < 2) = false := by decide
            go_wp2
            go_ret
            exact ⟨rfl, UP.out _ (acc HBL.out HB.out)⟩
end Go.Proofs.Ytbnmddopgbhapaa
