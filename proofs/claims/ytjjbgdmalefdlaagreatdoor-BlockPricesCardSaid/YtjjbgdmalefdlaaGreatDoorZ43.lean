/- merge.Lengths: its contract. -/
import Derived.Test.YtjjbgdmalefdlaaGreatDoorZ3
import Derived.Test.YtjjbgdmalefdlaaGreatDoorZ9
import Derived.Test.YtjjbgdmalefdlaaGreatDoorZ22
import Derived.Test.YtjjbgdmalefdlaaGreatDoorZ41
import Derived.Test.YtjjbgdmalefdlaaGreatDoorZ42
set_option linter.unusedSimpArgs false
set_option linter.unusedVariables false
section
namespace Go.Proofs.YtjjbgdmalefdlaaGreatDoor
open Go.RowKit

def Mg.okB (l : List Int) : Bool := Mg.within l 300 1099511627776
def Mg.okL (l : List Int) (L : Int) : Bool := decide (1 ≤ L ∧ L ≤ 16 ∧ Mg.used l ≤ 2 ^ L.toNat)
def LenPost (w : World) (l : List Int) (L : Int) (e : Ending) (w' : World) : Prop :=
  Below w.heap.size w w' ∧
  ((Mg.okB l = false ∧ e = .returned (.tuple #[.slice none 0 0, .iface 51 (.int .i64 6)])) ∨
   (Mg.okB l = true ∧ Mg.okL l L = false ∧ e = .returned (.tuple #[.slice none 0 0, .iface 51 (.int .i64 7)])) ∨
   (Mg.okB l = true ∧ Mg.okL l L = true ∧ ∃ v, e = .returned (.tuple #[v, .nilIface]) ∧ w'.ownsRow w.heap.size 3 1 v l.length (ivs (Mg.lensOf l L.toNat))))
theorem lens_wf (R : List Int) (L : Nat) (hL : L ≤ 16) : ∀ x ∈ Mg.lens R L, 0 ≤ x ∧ x ≤ 16 := by
  intro x hx
  unfold Mg.lens at hx
  split at hx
  · have := List.eq_of_mem_replicate hx; omega
  · simp only [List.mem_map] at hx
    obtain ⟨i, _, rfl⟩ := hx
    have := Mg.tim_le R L (2 * R.length - 2) L i
    omega
set_option maxHeartbeats 4000000 in
set_option maxRecDepth 100000 in
theorem lengths_any (a : Option Addr) (len cap : Nat) (l : List Int) (L : Int) (w : World) (h : Is .i64 w a len cap l) (hr : len ≤ 140737488355328) :
    Calls Tryz.prog 97 #[.slice a len cap, .int .i64 L] w (LenPost w l L) := by
  have HL := Lib.hid h.hlen
  have H := Lib.hid h
  clear h
  go_enter Tryz.func97, Tryz.ntmps97
  go_wp2_with fail
  refine (within_any a len cap l 300 1099511627776 w H.out hr (by omega) (by omega)).mono ?_
  rintro e w' ⟨rfl, rfl⟩
  cases hb : Mg.within l 300 1099511627776
  · have HB := Lib.hid hb
    clear hb
    go_wp2
    go_ret2
    exact ⟨Below.refl _ _, .inl ⟨HB.out, rfl⟩⟩
  have HB := Lib.hid hb
  have h300 : len ≤ 300 := by have := Mg.within_len hb; rw [HL.out] at this; exact this
  have HWA := Lib.hid (fun k hk => Mg.within_at hb k hk)
  clear hb
  go_wp2_with fail
  refine (rarest_any a len cap l w H.out (by omega)).mono ?_
  rintro e w1 ⟨vs, vr, rfl, owns, ownr, hb1⟩
  have hou := Mg.order_used l
  have hul := Mg.used_le l
  rw [HL.out] at hul
  have HRW : Hid (∀ x ∈ Mg.rise l, 0 ≤ x ∧ x ≤ 1099511627776) := Lib.hid (fun x hx => ⟨Int.le_of_lt (Mg.rise_pos l x hx), Mg.rise_le l _ (fun k hk => (HWA.out k hk).2) x hx⟩)
  obtain ⟨sa, sc, rfl, his⟩ := own_is owns (nums_wf _ (fun x hx => by have := Mg.order_lt l x hx; rw [HL.out] at this; omega))
  obtain ⟨ra, rc, rfl, hir⟩ := own_is ownr (fun n hn => by
    have := HRW.out n hn
    simp only [Lit.wf, IntKind.min, IntKind.max, IntKind.signed, IntKind.bits, Bool.and_eq_true, decide_eq_true_eq, if_true]
    simp; omega)
  have HIS := Lib.hid his
  have HIR := Lib.hid hir
  have HSA0 := Lib.hid (fun ad (e : sa = some ad) => (show ad.block < w1.heap.size from (owns.lt ad.block (by rw [e]; rfl)).2))
  have HB1 := Lib.hid hb1
  clear owns ownr his hir hb1
  rw [hou] at HIS HIR ⊢
  have HOU := Lib.hid hou
  clear hou
  by_cases hlo : L < 1
  · have d1 : decide (L < 1) = true := by simpa using hlo
    have HX : Hid (Mg.okL l L = false) := Lib.hid (by unfold Mg.okL; exact decide_eq_false (by omega))
    clear hlo
    go_wp2
    go_ret2
    exact ⟨HB1.out, .inr (.inl ⟨HB.out, HX.out, rfl⟩)⟩
  have d1 : decide (L < 1) = false := by simpa using hlo
  by_cases hhi : 16 < L
  · have d2 : decide (16 < L) = true := by simpa using hhi
    have HX : Hid (Mg.okL l L = false) := Lib.hid (by unfold Mg.okL; exact decide_eq_false (by omega))
    clear hlo hhi
    go_wp2
    go_ret2
    exact ⟨HB1.out, .inr (.inl ⟨HB.out, HX.out, rfl⟩)⟩
  have d2 : decide (16 < L) = false := by simpa using hhi
  obtain ⟨n, rfl⟩ := Int.eq_ofNat_of_zero_le (show 0 ≤ L by omega)
  have hcast : ((2 ^ n : Nat) : Int) = (2 : Int) ^ n := Int.natCast_pow 2 n
  have hpn : 2 ^ n ≤ 65536 := (Nat.pow_le_pow_right (by omega) (show n ≤ 16 by omega) : 2 ^ n ≤ 2 ^ 16)
  have hpp : 0 < 2 ^ n := Nat.pow_pos (by omega)
  have hp16 : (2 : Int) ^ n ≤ 65536 := by rw [← hcast]; omega
  have hp0 : (0 : Int) < 2 ^ n := by rw [← hcast]; omega
  have hwr : wrap64 ((2 : Int) ^ n) = 2 ^ n := IntWalk.wrap64_in _ ⟨by omega, by omega⟩
  have HUS := Lib.hid (show Mg.okL l (n : Int) = decide (Mg.used l ≤ 2 ^ n) by
    unfold Mg.okL
    apply decide_eq_decide.2
    rw [Int.toNat_natCast]
    exact ⟨fun h => h.2.2, fun h => ⟨by omega, by omega, h⟩⟩)
  by_cases hfew : Mg.used l ≤ 2 ^ n
  rotate_left
  · have d3 : decide (wrap64 ((2 : Int) ^ n) < (Mg.used l : Int)) = true := by rw [hwr]; simp; omega
    have HX : Hid (Mg.okL l n = false) := Lib.hid (by rw [HUS.out]; exact decide_eq_false hfew)
    clear hfew hp16 hp0 hpn hpp hcast hwr
    go_wp2
    go_ret2
    exact ⟨HB1.out, .inr (.inl ⟨HB.out, HX.out, rfl⟩)⟩
  have d3 : decide (wrap64 ((2 : Int) ^ n) < (Mg.used l : Int)) = false := by rw [hwr]; simp; omega
  have HX : Hid (Mg.okL l n = true) := Lib.hid (by rw [HUS.out]; exact decide_eq_true hfew)
  have HF := Lib.hid hfew
  have hn1 : 1 ≤ n ∧ n ≤ 16 := by omega
  clear hfew hp16 hp0 hpn hpp hcast hwr HUS
  have hw1 := HB1.out.size
  go_wp2_with (at_make; refine wpl_make_full tyI rfl _ _ rfl w.heap.size .i64 .i64 _ _ len rfl rfl rfl rfl (by omega) (by omega) hw1 ?_)
  intro w2 own2 hg2
  have hb2 : Below w1.heap.size w1 w2 := (Below.refl _ _).grown hg2 (Nat.le_refl _) (by simp)
  have own3 : w2.ownsRow w.heap.size 3 1 (.slice (some ⟨w1.heap.size, 0, none⟩) len len) len (ivs (Mg.scat len (Mg.order l) (Mg.lens (Mg.rise l) n) 0)) := by
    have e := made_ints1 len
    rw [Nat.mul_one] at e
    rw [Mg.scat, ← e]; exact own2
  have HO := Lib.hid own3
  have hq : w1.heap.size < w2.heap.size := (own3.lt _ rfl).2
  have HIS2 := Lib.hid (HIS.out.mono hb2)
  have HIR2 := Lib.hid (HIR.out.mono hb2)
  have HB2 := Lib.hid (below_then HB1.out hb2)
  clear own2 own3 hg2 hb2 HIS HIR HB1
  have hqw : w.heap.size ≤ w1.heap.size := hw1
  have HSA := Lib.hid (fun ad (e : sa = some ad) (he : ad.block = w1.heap.size) => Nat.lt_irrefl _ (he ▸ HSA0.out ad e))
  clear HSA0
  generalize w1.heap.size = q at *
  go_wp2_with fail
  refine (least_any ra (Mg.used l) rc (Mg.rise l) n w2 HIR2.out (by omega) hn1.1 hn1.2 HF.out HRW.out).mono ?_
  rintro e w3 ⟨v, rfl, own3, hb3⟩
  rw [Mg.rise_length] at own3
  obtain ⟨la, lc, rfl, hil⟩ := own_is own3 (fun x hx => by
    have := lens_wf (Mg.rise l) n hn1.2 x hx
    simp only [Lit.wf, IntKind.min, IntKind.max, IntKind.signed, IntKind.bits, Bool.and_eq_true, decide_eq_true_eq, if_true]
    simp; omega)
  have HLO := Lib.hid own3
  have HSS := Lib.hid (HIS2.out.mono hb3)
  have HO3 := Lib.hid (own_below HO.out hb3)
  have HB3 := Lib.hid (below_then HB2.out hb3)
  have hlb : ∀ g, (Value.slice la (Mg.used l) lc).ownBlock = some g → g ≠ q := fun g hg => by have := (own3.lt g hg).1; omega
  have HLB := Lib.hid hlb
  have HLW : Hid (Wf (Mg.lens (Mg.rise l) n)) := Lib.hid hil.wf
  have HSN : Hid (∀ ad, sa = some ad → ¬ (fun j => j = q) ad.block) := Lib.hid (fun ad e he => HSA.out ad e he)
  clear own3 hil hb3 HIS2 HIR2 HB2 HO hlb
  go_wp2
  go_loopw [41] (fun i wr => ∃ k : Nat, k ≤ Mg.used l ∧ i = .int .i64 k ∧ Hid (Ch w3 wr (fun j => j = q) ∧ wr.ownsRow w.heap.size 3 1 (.slice (some ⟨q, 0, none⟩) len len) len (ivs (Mg.scat len (Mg.order l) (Mg.lens (Mg.rise l) n) k)))) (fun i _ => Mg.used l - (intOf i).toNat)
  case atStart => exact ⟨0, by omega, rfl, Lib.hid ⟨Ch.refl _ _, HO3.out⟩⟩
  case round =>
    obtain ⟨k, hk, rfl, HK⟩ := hrel
    by_cases hlt : k < Mg.used l
    · have hko : k < (Mg.order l).length := by rw [HOU.out]; exact hlt
      have hso : (Mg.order l).getD k 0 < len := by
        have hm : (Mg.order l).getD k 0 ∈ Mg.order l := by simp [List.getD, List.getElem?_eq_getElem hko]
        have := Mg.order_lt l _ hm; rw [HL.out] at this; exact this
      obtain ⟨b1, o1, rfl, _, c1⟩ := (own_is (HK.out.1.own HLO.out HLB.out) HLW.out).elim (fun a h => h.elim fun c h => (show ∃ b off, la = some ⟨b, off, none⟩ ∧ b < wr.heap.size ∧ wr.cell? ⟨b, off + k, none⟩ = some (.int .i64 ((Mg.lens (Mg.rise l) n).getD k 0)) from by
        have e := h.1
        simp only [Value.slice.injEq, true_and] at e
        obtain ⟨rfl, rfl⟩ := e
        exact h.2.at' k hlt))
      obtain ⟨b2, o2, rfl, _, c2⟩ := (HSS.out.kept HK.out.1 HSN.out).at' k hlt
      have e2 : (List.map (fun (i : Nat) => (i : Int)) (Mg.order l)).getD k 0 = (((Mg.order l).getD k 0 : Nat) : Int) := nums_getD _ _
      rw [e2] at c2
      obtain ⟨⟨z0, g0⟩, f0⟩ := own_slot HK.out.2 _ hso
      have HK2 : Hid (Ch w3 (wr.setCell ⟨q, (Mg.order l).getD k 0, none⟩ (.int .i64 ((Mg.lens (Mg.rise l) n).getD k 0))) (fun j => j = q) ∧ (wr.setCell ⟨q, (Mg.order l).getD k 0, none⟩ (.int .i64 ((Mg.lens (Mg.rise l) n).getD k 0))).ownsRow w.heap.size 3 1 (.slice (some ⟨q, 0, none⟩) len len) len (ivs (Mg.scat len (Mg.order l) (Mg.lens (Mg.rise l) n) (k + 1)))) :=
        Lib.hid ⟨HK.out.1.set (.inl rfl) _, own_set HK.out.2 _ _⟩
      clear HK
      generalize (Mg.order l).getD k 0 = sy at *
      generalize (Mg.lens (Mg.rise l) n).getD k 0 = z at *
      go_wp2
      go_roundw
      case rel => exact ⟨k + 1, by omega, by go_num, HK2⟩
      case measure => simp [intOf]; omega
    · obtain rfl : k = Mg.used l := by omega
      have HE : Hid (wr.ownsRow w.heap.size 3 1 (.slice (some ⟨q, 0, none⟩) len len) l.length (ivs (Mg.lensOf l n)) ∧ Below w.heap.size w wr) := Lib.hid ⟨by
        unfold Mg.lensOf
        rw [HL.out, HOU.out]; exact HK.out.2, HB3.out.trans (HK.out.1.below HB3.out.size (fun j hj => by subst hj; exact hqw))⟩
      clear HK
      go_wp2
      go_ret2
      exact ⟨HE.out.2, .inr (.inr ⟨HB.out, HX.out, _, rfl, by rw [Int.toNat_natCast]; exact HE.out.1⟩)⟩
end Go.Proofs.YtjjbgdmalefdlaaGreatDoor
end
