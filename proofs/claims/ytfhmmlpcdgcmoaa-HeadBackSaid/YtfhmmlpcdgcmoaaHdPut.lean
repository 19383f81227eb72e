/- head.Put: its contract. -/
import Derived.Test.YtfhmmlpcdgcmoaaHdTake
namespace Go.Proofs.Ytfhmmlpcdgcmoaa
open Go.RowKit

namespace Hd
/-- What Put answers. -/
def HpPost (w : World) (x : H) (e : Ending) (w' : World) : Prop :=
  if bad x = 0 then ∃ a cap, e = .returned (.tuple #[.slice a 13 cap, .nilIface]) ∧ Bs w' a 13 cap (enc x) ∧ Below w.heap.size w w'
  else e = .returned (.tuple #[.slice none 0 0, errV (bad x)]) ∧ Below w.heap.size w w'
set_option maxRecDepth 100000 in
set_option maxHeartbeats 4000000 in
theorem put_any (x : H) (w : World) : Calls Try.prog 22 #[x.val] w (HpPost w x) := by
  have HBX := Lib.hid (bx_new w x)
  have HAL := Lib.hid (below_alloc w (.cells #[.int .i64 x.w, .int .i64 x.h, .int .i64 x.d, .int .i64 x.c, .int .i64 x.l] 29))
  have HCK := Lib.hid (fun w => check_any x w)
  have HGN := Lib.hid (fun h => good_nat (x := x) h)
  have HFW := Lib.hid (fun h k => fw_small (x := x) h k)
  have HP0 : Hid (∀ e w', bad x = 0 → (∃ a cap, e = .returned (.tuple #[.slice a 13 cap, .nilIface]) ∧ Bs w' a 13 cap (enc x) ∧ Below w.heap.size w w') → HpPost w x e w') := Lib.hid (fun e w' hz h => by unfold HpPost; rw [if_pos hz]; exact h)
  have HP1 : Hid (∀ e w', bad x ≠ 0 → (e = .returned (.tuple #[.slice none 0 0, errV (bad x)]) ∧ Below w.heap.size w w') → HpPost w x e w') := Lib.hid (fun e w' hz h => by unfold HpPost; rw [if_neg hz]; exact h)
  have HE : Hid (enc x = encN x 7) := Lib.hid rfl
  have HN : Hid (∀ k, encN x (k + 1) = encN x k ++ Pt.dig (sz k) (fw x k)) := Lib.hid (fun k => rfl)
  have HF0 : Hid (fw x 0 = x.w.toNat ∧ fw x 1 = x.h.toNat ∧ fw x 2 = x.d.toNat ∧ fw x 3 = x.c.toNat ∧ fw x 4 = 0 ∧ fw x 5 = 0 ∧ fw x 6 = x.l.toNat) := Lib.hid ⟨rfl, rfl, rfl, rfl, rfl, rfl, rfl⟩
  unfold H.val at HCK ⊢
  generalize bad x = bd at *
  generalize hpost : HpPost w x = PO at *
  clear hpost
  by_cases hz : bd = 0
  rotate_left
  · have HEV := Lib.hid (errV_pos hz)
    have HP := Lib.hid (fun e w' => HP1.out e w' hz)
    clear HGN HFW HP0 HP1 HE HN HF0 hz
    obtain ⟨xw, xh, xd, xc, xl⟩ := x
    simp only at HBX HAL HCK ⊢
    rw [HEV.out] at HP HCK
    go_enter Try.func22, Try.ntmps22
    go_wp2_with fail
    refine (HCK.out _).mono ?_
    rintro e w2 ⟨rfl, hb2⟩
    have HB2 := Lib.hid (below_then HAL.out hb2)
    clear hb2
    go_wp2
    exact HP.out _ _ ⟨rfl, HB2.out⟩
  have hn := HGN.out hz
  have HP := Lib.hid (fun e w' => HP0.out e w' hz)
  have HSM := Lib.hid (HFW.out hz)
  rw [errV_zero hz] at HCK
  clear HGN HFW HP0 HP1 hz
  rw [HE.out] at HP
  generalize hfw : fw x = f at *
  generalize henc : encN x = en at *
  have hen0 : en 0 = [] := by rw [← henc]; rfl
  have hel : ∀ k, (en k).length = pos k := fun k => by rw [← henc]; exact encN_length x k
  have HEL := Lib.hid hel
  have HEN0 := Lib.hid hen0
  clear hfw henc hel hen0 HE
  obtain ⟨xw, xh, xd, xc, xl⟩ := x
  simp only at HBX HAL HCK hn HF0 ⊢
  obtain ⟨nw, nh, nd, nc, nl, _⟩ := hn
  rw [← HF0.out.1] at nw
  rw [← HF0.out.2.1] at nh
  rw [← HF0.out.2.2.1] at nd
  rw [← HF0.out.2.2.2.1] at nc
  rw [← HF0.out.2.2.2.2.2.2] at nl
  have hf4 := HF0.out.2.2.2.2.1
  have hf5 := HF0.out.2.2.2.2.2.1
  have HF4 : Hid ((0 : Int) = (f 4 : Nat)) := Lib.hid (by rw [hf4]; rfl)
  have HF5 : Hid ((0 : Int) = (f 5 : Nat)) := Lib.hid (by rw [hf5]; rfl)
  have NW := Lib.hid nw
  have NH := Lib.hid nh
  have ND := Lib.hid nd
  have NC := Lib.hid nc
  have NL := Lib.hid nl
  clear hf4 hf5 nw nh nd nc nl HF0
  have i0 : ∀ w, (Instr.index 66 (.agg #[.int .i64 xw, .int .i64 xh, .int .i64 xd, .int .i64 xc, .int .i64 0, .int .i64 0, .int .i64 xl]) (.int .i64 0)).run Try.prog w = .ok (.int .i64 xw) w := fun w => by kernel_rfl
  have i1 : ∀ w, (Instr.index 66 (.agg #[.int .i64 xw, .int .i64 xh, .int .i64 xd, .int .i64 xc, .int .i64 0, .int .i64 0, .int .i64 xl]) (.int .i64 1)).run Try.prog w = .ok (.int .i64 xh) w := fun w => by kernel_rfl
  have i2 : ∀ w, (Instr.index 66 (.agg #[.int .i64 xw, .int .i64 xh, .int .i64 xd, .int .i64 xc, .int .i64 0, .int .i64 0, .int .i64 xl]) (.int .i64 2)).run Try.prog w = .ok (.int .i64 xd) w := fun w => by kernel_rfl
  have i3 : ∀ w, (Instr.index 66 (.agg #[.int .i64 xw, .int .i64 xh, .int .i64 xd, .int .i64 xc, .int .i64 0, .int .i64 0, .int .i64 xl]) (.int .i64 3)).run Try.prog w = .ok (.int .i64 xc) w := fun w => by kernel_rfl
  have i4 : ∀ w, (Instr.index 66 (.agg #[.int .i64 xw, .int .i64 xh, .int .i64 xd, .int .i64 xc, .int .i64 0, .int .i64 0, .int .i64 xl]) (.int .i64 4)).run Try.prog w = .ok (.int .i64 0) w := fun w => by kernel_rfl
  have i5 : ∀ w, (Instr.index 66 (.agg #[.int .i64 xw, .int .i64 xh, .int .i64 xd, .int .i64 xc, .int .i64 0, .int .i64 0, .int .i64 xl]) (.int .i64 5)).run Try.prog w = .ok (.int .i64 0) w := fun w => by kernel_rfl
  have i6 : ∀ w, (Instr.index 66 (.agg #[.int .i64 xw, .int .i64 xh, .int .i64 xd, .int .i64 xc, .int .i64 0, .int .i64 0, .int .i64 xl]) (.int .i64 6)).run Try.prog w = .ok (.int .i64 xl) w := fun w => by kernel_rfl
  go_enter Try.func22, Try.ntmps22
  go_wp2_with fail
  refine (HCK.out _).mono ?_
  rintro e w2 ⟨rfl, hb2⟩
  have HX2 := Lib.hid (HBX.out.below hb2)
  have HB2 := Lib.hid (below_then HAL.out hb2)
  obtain ⟨c0, c1, c2, c3, c4⟩ := HX2.out.cells
  simp only at c0 c1 c2 c3 c4
  clear hb2 HBX HAL HCK
  go_wp2
  clear c0 c1 c2 c3 c4 HX2
  go_loopw [5, 6, 7, 8, 9, 26] (fun v _ _ _ _ i wr => ∃ (k : Nat) (b : Option Addr) (c : Nat), k ≤ 7 ∧ i = .int .i64 (k : Nat) ∧ v = .slice b (pos k) c ∧ Hid (Bs wr b (pos k) c (en k)) ∧ Hid (Below w.heap.size w wr)) (fun _ _ _ _ _ i _ => 7 - (intOf i).toNat)
  case atStart => exact ⟨0, none, 0, by omega, rfl, rfl, Lib.hid (by rw [HEN0.out]; exact bs_nil _), HB2⟩
  case round =>
    obtain ⟨k, b, c, hk, rfl, rfl, HB, HBW⟩ := hrel
    have hstep : k < 7 → ∀ v : Int, v = (f k : Nat) → Calls Try.prog 38 #[.slice b (pos k) c, .int .i64 (sz k : Nat), .int .i64 v] wr (fun e w' => ∃ a c', e = .returned (.tuple #[.slice a (pos (k + 1)) c', .nilIface]) ∧ Bs w' a (pos (k + 1)) c' (en (k + 1)) ∧ Below wr.heap.size wr w') := fun h7 v hv => by
      have hp2 := pos_le (k := k + 1) (by omega)
      have hps := pos_succ k
      rw [hv]
      refine (put_ok b (pos k) c (en k) (sz k) (f k) wr HB.out (by omega) (by rcases sz_two k with h | h <;> omega) (HSM.out k)).mono ?_
      rintro e w3 ⟨g, rfl, own3, hb3⟩
      obtain ⟨a3, c3, e3, hs3⟩ := own_bs own3 (by omega)
      rw [← hps] at e3 hs3 ⊢
      rw [← HN.out k] at hs3
      exact ⟨a3, c3, by rw [e3], hs3, hb3⟩
    have HST := Lib.hid hstep
    have HSZ := Lib.hid (fun w => size_any k w)
    clear hstep
    by_cases hlt : k < 7
    · have HST := Lib.hid (HST.out hlt)
      have hks : k = 0 ∨ k = 1 ∨ k = 2 ∨ k = 3 ∨ k = 4 ∨ k = 5 ∨ k = 6 := by omega
      clear hlt hk
      rcases hks with rfl | rfl | rfl | rfl | rfl | rfl | rfl
      all_goals
        go_wp2_with fail
        refine (HSZ.out _).mono ?_
        rintro e w' ⟨rfl, rfl⟩
        go_wp2_with fail
        refine (HST.out _ (by first | exact NW.out | exact NH.out | exact ND.out | exact NC.out | exact NL.out | exact HF4.out | exact HF5.out)).mono ?_
        rintro e w3 ⟨a3, c3, rfl, hs3, hb3⟩
        have HB3 := Lib.hid (below_then HBW.out hb3)
        have HS3 := Lib.hid hs3
        clear hs3 hb3 HST HSZ
        go_wp2
        go_roundw
        case rel => exact ⟨_, a3, c3, by omega, by go_num, rfl, HS3, HB3⟩
        case measure => simp [intOf]
    · obtain rfl : k = 7 := by omega
      go_wp2
      exact HP.out _ _ ⟨_, _, rfl, HB.out, HBW.out⟩
end Hd
end Go.Proofs.Ytfhmmlpcdgcmoaa
