/-
  The document's Zero, walked: is a letter the zero one?
-/
import Derived.Test.YtbnmddopgbhapaaLetRefB
namespace Go.Proofs.Ytbnmddopgbhapaa
open Go.RowKit

/-- is a letter the zero one, in the document's order? -/
def zeroB (l : LV) : Bool := (l.k == 0) && ((l.f == 0) && ((l.t == 0) && ((l.i == 0) && ((l.op == 0) && ((l.key.toList == []) && ((l.val.toList == []) && ((l.kto.toList == []) && ((l.most == 0) && (((l.af : Int) == 0) && (((l.au : Int) == 0) && ((l.ep == 0) && (((l.li.length : Int) == 0) && ((l.n == 0) && ((l.nd == 0) && ((l.er == 0) && ((l.tv.toList == []) && (((l.ti.length : Int) == 0) && ((!l.more) && ((l.nx.toList == []) && ((l.tn == 0)))))))))))))))))))))
set_option maxRecDepth 20000 in
set_option maxHeartbeats 8000000 in
theorem dzero_any (l : LV) (S1 S2 : Value) (W : World) (h1 : SlAt W S1 l.ti) (h2 : SlAt W S2 l.li) :
    Calls Try.prog 30 #[.agg (l.cells S1 S2)] W fun e w' => e = .returned (.bool (zeroB l)) ∧ Below W.heap.size W w' := by
  obtain ⟨A1, k1, rfl, x1, x2, x3⟩ := h1
  obtain ⟨A2, k2, rfl, x4, x5, x6⟩ := h2
  have HE0 : Hid (zeroB l = ((l.k == 0) && ((l.f == 0) && ((l.t == 0) && ((l.i == 0) && ((l.op == 0) && ((l.key.toList == []) && ((l.val.toList == []) && ((l.kto.toList == []) && ((l.most == 0) && (((l.af : Int) == 0) && (((l.au : Int) == 0) && ((l.ep == 0) && (((l.li.length : Int) == 0) && ((l.n == 0) && ((l.nd == 0) && ((l.er == 0) && ((l.tv.toList == []) && (((l.ti.length : Int) == 0) && ((!l.more) && ((l.nx.toList == []) && ((l.tn == 0))))))))))))))))))))))) := rfl
  have HB0 : Hid (Below W.heap.size W (W.alloc (.cells (l.cells (.slice A1 l.ti.length k1) (.slice A2 l.li.length k2)) 32))) := (Below.refl _ _).alloc (Nat.le_refl _) _
  clear x1 x2 x3 x4 x5 x6
  obtain ⟨q_k, d_k⟩ : ∃ q, (l.k == 0) = q := ⟨_, rfl⟩
  obtain ⟨q_f, d_f⟩ : ∃ q, (l.f == 0) = q := ⟨_, rfl⟩
  obtain ⟨q_t, d_t⟩ : ∃ q, (l.t == 0) = q := ⟨_, rfl⟩
  obtain ⟨q_i, d_i⟩ : ∃ q, (l.i == 0) = q := ⟨_, rfl⟩
  obtain ⟨q_op, d_op⟩ : ∃ q, (l.op == 0) = q := ⟨_, rfl⟩
  obtain ⟨q_key, d_key⟩ : ∃ q, (l.key.toList == []) = q := ⟨_, rfl⟩
  obtain ⟨q_val, d_val⟩ : ∃ q, (l.val.toList == []) = q := ⟨_, rfl⟩
  obtain ⟨q_kto, d_kto⟩ : ∃ q, (l.kto.toList == []) = q := ⟨_, rfl⟩
  obtain ⟨q_most, d_most⟩ : ∃ q, (l.most == 0) = q := ⟨_, rfl⟩
  obtain ⟨q_af, d_af⟩ : ∃ q, ((l.af : Int) == 0) = q := ⟨_, rfl⟩
  obtain ⟨q_au, d_au⟩ : ∃ q, ((l.au : Int) == 0) = q := ⟨_, rfl⟩
  obtain ⟨q_ep, d_ep⟩ : ∃ q, (l.ep == 0) = q := ⟨_, rfl⟩
  obtain ⟨q_li, d_li⟩ : ∃ q, ((l.li.length : Int) == 0) = q := ⟨_, rfl⟩
  obtain ⟨q_n, d_n⟩ : ∃ q, (l.n == 0) = q := ⟨_, rfl⟩
  obtain ⟨q_nd, d_nd⟩ : ∃ q, (l.nd == 0) = q := ⟨_, rfl⟩
  obtain ⟨q_er, d_er⟩ : ∃ q, (l.er == 0) = q := ⟨_, rfl⟩
  obtain ⟨q_tv, d_tv⟩ : ∃ q, (l.tv.toList == []) = q := ⟨_, rfl⟩
  obtain ⟨q_ti, d_ti⟩ : ∃ q, ((l.ti.length : Int) == 0) = q := ⟨_, rfl⟩
  obtain ⟨q_more, d_more⟩ : ∃ q, (!l.more) = q := ⟨_, rfl⟩
  obtain ⟨q_nx, d_nx⟩ : ∃ q, (l.nx.toList == []) = q := ⟨_, rfl⟩
  obtain ⟨q_tn, d_tn⟩ : ∃ q, (l.tn == 0) = q := ⟨_, rfl⟩
  have HE : Hid (zeroB l = (q_k && (q_f && (q_t && (q_i && (q_op && (q_key && (q_val && (q_kto && (q_most && (q_af && (q_au && (q_ep && (q_li && (q_n && (q_nd && (q_er && (q_tv && (q_ti && (q_more && (q_nx && (q_tn)))))))))))))))))))))) := by
    show _ = _
    rw [HE0.out, d_k, d_f, d_t, d_i, d_op, d_key, d_val, d_kto, d_most, d_af, d_au, d_ep, d_li, d_n, d_nd, d_er, d_tv, d_ti, d_more, d_nx, d_tn]
  clear HE0
  go_enter Try.func30, Try.ntmps30
  go_wp2
  all_goals (go_ret; exact ⟨by rw [HE.out]; first | rfl | simp_all, HB0.out⟩)
end Go.Proofs.Ytbnmddopgbhapaa
