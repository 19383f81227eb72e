/- filter.Roll: its contract. -/
import Derived.Test.YtbgaaocgdjkkeaaDoorFlGoodR
import Derived.Test.YtbgaaocgdjkkeaaDoorFlLight
import Derived.Test.YtbgaaocgdjkkeaaDoorFlGood
import Derived.Test.YtbgaaocgdjkkeaaDoorFlChk
import Derived.Test.YtbgaaocgdjkkeaaDoorFlSub
import Derived.Test.YtbgaaocgdjkkeaaDoorFlBufW
namespace Go.Proofs.YtbgaaocgdjkkeaaDoor
open Go.RowKit

theorem roll_bad (ra : Option Addr) (n rcap : Nat) (s p : Int) (ka : Option Addr) (kl kcap : Nat) (ks : List Int) (w : World) (hk : Is .i64 w ka kl kcap ks) (hl : kl ≤ 100000000) (hn : n ≤ 100000000) (hg : Fi.goodRl n s p ks = false) :
    Calls Tryd.prog 8 #[.slice ra n rcap, .int .i64 s, .int .i64 p, .slice ka kl kcap] w fun e w' => e = .returned (.tuple #[.slice none 0 0, .iface 38 (.int .i64 6)]) ∧ w = w' := by
  have HG := Lib.hid (goodRoll_any n s p ka kl kcap ks w hk hl hn)
  rw [hg] at HG
  clear hk hg
  go_enter Tryd.func8, Tryd.ntmps8
  go_wp2_with fail
  refine HG.out.mono ?_
  rintro e w' ⟨rfl, rfl⟩
  go_wp2
  go_ret2
  exact ⟨rfl, rfl⟩
theorem Fi.goodRl_is {n : Nat} {s p : Int} {ks : List Int} (h : Fi.goodRl n s p ks = true) : ∃ t q : Nat, s = t ∧ p = q ∧ 1 ≤ t ∧ 1 ≤ q ∧ q ≤ 8 ∧ ks.length * t = n ∧ Fi.goodK ks = true := by
  unfold Fi.goodRl at h
  simp only [Bool.and_eq_true, decide_eq_true_eq] at h
  obtain ⟨⟨⟨⟨⟨h1, h2⟩, h3⟩, h4⟩, h5⟩, h6⟩ := h
  refine ⟨s.toNat, p.toNat, by omega, by omega, by omega, by omega, by omega, ?_, h6⟩
  rw [← h5]
  exact Nat.div_mul_cancel (Nat.dvd_of_mod_eq_zero h4)
def Fi.RoPost (w : World) (r : List UInt8) (n : Nat) (e : Ending) (w' : World) : Prop :=
  Below w.heap.size w w' ∧ ∃ g c, w.heap.size ≤ g ∧ c ≤ 2000000 ∧ e = .returned (.tuple #[.slice (some ⟨g, 0, none⟩) n c, .nilIface]) ∧ Bs w' (some ⟨g, 0, none⟩) n c r
set_option maxRecDepth 100000 in
set_option maxHeartbeats 4000000 in
theorem roll_good (ra : Option Addr) (n rcap : Nat) (l : List UInt8) (t q : Nat) (ka : Option Addr) (kl kcap : Nat) (ks : List Int) (w : World) (h : Bs w ra n rcap l) (hk : Is .i64 w ka kl kcap ks) (hkl : kl ≤ 1000000) (hn : n ≤ 1000000) (hrc : rcap ≤ 140737488355328) (hg : Fi.goodRl n t q ks = true) :
    Calls Tryd.prog 8 #[.slice ra n rcap, .int .i64 t, .int .i64 q, .slice ka kl kcap] w (Fi.RoPost w (Fi.rolN l t q ks kl) (kl * (t + 1))) := by
  have HG := Lib.hid (goodRoll_any n t q ka kl kcap ks w hk (by omega) (by omega))
  rw [hg] at HG
  obtain ⟨t', q', e1, e2, ht, hq, hq8, hn2, hK⟩ := Fi.goodRl_is hg
  obtain rfl : t = t' := by omega
  obtain rfl : q = q' := by omega
  have HKL := Lib.hid hk.hlen
  rw [hk.hlen] at hn2
  have HN2 := Lib.hid hn2
  have HK := Lib.hid hK
  have H := Lib.hid h
  have HKS := Lib.hid hk
  have HLN := Lib.hid h.hlen
  clear h hk hg e1 e2 hn2 hK
  obtain ⟨C, hC⟩ : ∃ C : Nat, n + kl = C := ⟨_, rfl⟩
  have hCI : (n : Int) + (kl : Int) = (C : Int) := by omega
  have hCb : C ≤ 2000000 := by omega
  have HC := Lib.hid hC
  obtain ⟨i0, hi, hz0, hz1, hz2⟩ := info_parts tyB.info
  have hmk := run_make (P := Tryd.prog) w 22 5 i0 (.int .u8 0) tyB.ht hi hz0 .i64 .i64 0 (C : Int) (by omega) (by omega) (by rw [hz2]; omega) (by omega)
  rw [Int.toNat_zero, Int.toNat_natCast, hz1] at hmk
  clear hi hz0 hz1 hz2
  have hrow : (w.alloc (.cells (madeCells (Value.int .u8 0).cells (C * 1)) 5)).heap[w.heap.size]? = some (.cells (bvs (List.replicate C 0)).toArray 5 (0, 0)) := by
    have e9 : madeCells (Value.int .u8 0).cells (C * 1) = (bvs (List.replicate C 0)).toArray := by
      have := made_bytes C
      rw [← this]
      simp [Value.cells]
    rw [← e9]
    exact heap_alloc_last w _
  have hb1 := below_alloc w (.cells (madeCells (Value.int .u8 0).cells (C * 1)) 5)
  obtain ⟨w1, hw1⟩ : ∃ w1, w.alloc (.cells (madeCells (Value.int .u8 0).cells (C * 1)) 5) = w1 := ⟨_, rfl⟩
  have hsz : w1.heap.size = w.heap.size + 1 := by rw [← hw1]; simp
  rw [hw1] at hmk hrow hb1
  clear hw1 hC
  have HROW := Lib.hid hrow
  have HB1 := Lib.hid hb1
  clear hrow hb1
  obtain ⟨g, hgq⟩ : ∃ g, w.heap.size = g := ⟨_, rfl⟩
  have HNB := Lib.hid (newBuffer_any g 0 C w1)
  have HGQ := Lib.hid hgq
  rw [hgq] at hmk HROW
  have hsz2 : w1.heap.size = g + 1 := by rw [hsz, hgq]
  have hbl := below_alloc w1 (.cells #[.slice (some ⟨g, 0, none⟩) 0 C, .int .i64 0, .int .i8 0] 61)
  have hbf : Bf (w1.alloc (.cells #[.slice (some ⟨g, 0, none⟩) 0 C, .int .i64 0, .int .i8 0] 61)) w1.heap.size g C (List.replicate C 0) 0 :=
    ⟨heap_alloc_last w1 _, by omega, (hbl.block g (by omega)).trans HROW.out, by simp, by omega, by omega⟩
  have HBF0 := Lib.hid hbf
  have HB0 := Lib.hid (below_then HB1.out hbl)
  clear hbf hbl HROW HB1 hsz hgq
  obtain ⟨gb, hgb⟩ : ∃ gb, w1.heap.size = gb := ⟨_, rfl⟩
  rw [hgb] at HBF0 HNB
  have HGE : Hid (w.heap.size ≤ g ∧ w.heap.size ≤ gb) := Lib.hid (by have := HGQ.out; omega)
  clear hsz2 hgb
  generalize (w1.alloc (.cells #[.slice (some ⟨g, 0, none⟩) 0 C, .int .i64 0, .int .i8 0] 61)) = w2 at HBF0 HB0 HNB
  go_enter Tryd.func8, Tryd.ntmps8
  go_wp2_with fail
  refine HG.out.mono ?_
  rintro e w' ⟨rfl, rfl⟩
  clear HG
  go_wp2_with fail
  refine HNB.out.mono ?_
  rintro e w' ⟨rfl, rfl⟩
  clear HNB hmk hCI
  go_wp2
  go_loopw [11, 12, 13, 14, 15, 16, 34] (fun av _ _ _ _ _ i wr => ∃ (k P : Nat) (ao : Option Addr) (al acap : Nat), k ≤ kl ∧ i = .int .i64 k ∧ av = .slice ao al acap ∧ Hid (P = k * (t + 1)) ∧ Hid ((∀ W, Below w.heap.size w W → Bs W ao al acap (Fi.ahI l t k)) ∧ (al = 0 ∨ al = t)) ∧ Hid (Below w.heap.size w wr ∧ ∃ F, Bf wr gb g C F P ∧ F.take P = Fi.rolN l t q ks k)) (fun _ _ _ _ _ _ i _ => kl - (intOf i).toNat)
  case atStart => exact ⟨0, 0, none, 0, 0, by omega, rfl, rfl, Lib.hid (by simp), Lib.hid ⟨fun W _ => bs_nil W, .inl rfl⟩, Lib.hid ⟨HB0.out, _, HBF0.out, by simp [Fi.rolN]⟩⟩
  case round =>
    obtain ⟨k, P, ao, al, acap, hk, rfl, rfl, HP, HAH, HX⟩ := hrel
    clear HBF0 HB0
    by_cases hkc : k < kl
    · have hnk : (k + 1) * t ≤ kl * t := Nat.mul_le_mul_right t hkc
      rw [HN2.out, Nat.succ_mul] at hnk
      obtain ⟨A, hA⟩ : ∃ A, k * t = A := ⟨_, rfl⟩
      rw [hA] at hnk
      have hn0 : 0 < n := by omega
      obtain ⟨hbw, F, hbf, hft⟩ := HX.out
      obtain ⟨rb, ro, rfl, hrb, _⟩ := H.out.at' 0 hn0
      have HROW := Lib.hid (fun W => rowOf_any rb ro n rcap t k A W hA hnk H.out.hle hrc ht (by omega) (by omega))
      have HRS : Hid (∀ W, Below w.heap.size w W → Bs W (some ⟨rb, ro + A, none⟩) t t (Fi.rowI l t k)) := Lib.hid (fun W hb => by
        have := (H.out.mono hb).sub A t hnk
        unfold Fi.rowI
        rw [hA]
        exact this)
      have HAH2 : Hid ((∀ W, Below w.heap.size w W → Bs W (some ⟨rb, ro + A, none⟩) t t (Fi.ahI l t (k + 1))) ∧ (t = 0 ∨ t = t)) := Lib.hid ⟨HRS.out, .inr rfl⟩
      have hPC2 : P + 1 + t ≤ C := by
        have h1 := Nat.mul_le_mul_right (t + 1) (show k + 1 ≤ kl from hkc)
        rw [Nat.succ_mul, ← HP.out, Nat.mul_add kl, HN2.out, Nat.mul_one] at h1
        have := HC.out
        omega
      have hPC : P < C := by omega
      obtain ⟨P2, hP2⟩ : ∃ P2, P2 = P + 1 + t := ⟨_, rfl⟩
      have HP2 : Hid (P2 = P + 1 + t ∧ P2 = (k + 1) * (t + 1)) := Lib.hid ⟨hP2, by rw [Nat.succ_mul, ← HP.out]; omega⟩
      obtain ⟨bk, offk, ek, hbk, c0⟩ := (HKS.out.mono hbw).at' k hkc
      subst ek
      have hkd := Fi.kdI_le (r := l) (s := t) (p := q) HK.out (show k < ks.length by rw [HKL.out]; exact hkc)
      have hkat := Fi.goodK_at HK.out k (by rw [HKL.out]; exact hkc)
      have hgr : Fi.gr t al q = true := by unfold Fi.gr; have := HAH.out.2; simp; omega
      have HFI0 : Hid (∀ (z : Int) (W : World), 0 ≤ z → z ≤ 4 → Below w.heap.size w W → Calls Tryd.prog 15 #[.int .i64 z, .slice (some ⟨rb, ro + A, none⟩) t t, .slice ao al acap, .int .i64 q] W (Fi.GPost W t (Fi.flt z (Fi.rowI l t k) (Fi.ahI l t k) q))) := Lib.hid (fun z W h1 h2 hb => by
        have hgd : Fi.good z t al q = true := by rw [Fi.good_gr, hgr]; simp; omega
        have := filter_good z (some ⟨rb, ro + A, none⟩) t t (Fi.rowI l t k) ao al acap (Fi.ahI l t k) q W hgd (HRS.out W hb) (HAH.out.1 W hb) (by omega) (by have := HAH.out.2; omega)
        rwa [Int.toNat_natCast] at this)
      have HLI : Hid (∀ W, Below w.heap.size w W → Calls Tryd.prog 19 #[.slice (some ⟨rb, ro + A, none⟩) t t, .slice ao al acap, .int .i64 q] W fun e w' => e = .returned (.tuple #[.int .i64 (Fi.light (Fi.rowI l t k) (Fi.ahI l t k) q : Nat), .nilIface]) ∧ Below W.heap.size W w') := Lib.hid (fun W hb => by
        refine (lightest_any (some ⟨rb, ro + A, none⟩) t t (Fi.rowI l t k) ao al acap (Fi.ahI l t k) q W (HRS.out W hb) (HAH.out.1 W hb) (by omega) (by have := HAH.out.2; omega)).mono ?_
        rintro e w' ⟨h1, h2⟩
        rw [Int.toNat_natCast] at h2
        rcases h2 with ⟨_, h2⟩ | ⟨h2, _⟩
        · exact ⟨h2, h1⟩
        · rw [hgr] at h2; cases h2)
      have hkdef : Fi.kdI l t q ks k = if ks.getD k 0 = -1 then ((Fi.light (Fi.rowI l t k) (Fi.ahI l t k) q : Nat) : Int) else ks.getD k 0 := rfl
      have hrn : Fi.rolN l t q ks (k + 1) = Fi.rolN l t q ks k ++ [UInt8.ofNat (Fi.kdI l t q ks k).toNat] ++ Fi.flt (Fi.kdI l t q ks k) (Fi.rowI l t k) (Fi.ahI l t k) q := rfl
      have HBW0 := Lib.hid hbw
      have HBF := Lib.hid hbf
      have HFT := Lib.hid hft
      by_cases hz : ks.getD k 0 = -1
      · rw [if_pos hz] at hkdef
        obtain ⟨x, hx⟩ : ∃ x, Fi.light (Fi.rowI l t k) (Fi.ahI l t k) q = x := ⟨_, rfl⟩
        rw [hx] at HLI hkdef
        rw [hkdef] at hrn hkd
        rw [Int.toNat_natCast] at hrn
        have hx : x < 256 := by omega
        have hxm : (x : Int) % 256 = (x : Int) := by omega
        have HFI1 := Lib.hid (fun W hb => HFI0.out (x : Int) W hkd.1 hkd.2 hb)
        have HRN := Lib.hid hrn
        rw [hz] at c0
        clear hz hkdef hrn hkd hkat hgr hbw hbf hft HX HFI0 HRS HAH hA hnk hP2 hrb
        go_wp2_with fail
        refine (HROW.out _).mono ?_
        rintro e w' ⟨rfl, rfl⟩
        clear HROW c0
        go_wp2_with fail
        refine (HLI.out _ HBW0.out).mono ?_
        rintro e w3 ⟨rfl, hb3⟩
        have HBW := Lib.hid (below_then HBW0.out hb3)
        have HBF' := Lib.hid (HBF.out.below hb3)
        clear HBF
        have HBF := HBF'
        have HFI := HFI1
        clear hb3 HLI HBW0 HBF' HFI1
        go_wp2_with fail
        refine (HFI.out _ HBW.out).mono ?_
        rintro e w4 ⟨gf, rfl, hsf, hof, hb4⟩
        have hz3 := HBW.out.size
        have HB4 := Lib.hid (below_then HBW.out hb4)
        have HBF4 := Lib.hid (HBF.out.below hb4)
        have hgf := (hof.out.lt gf rfl).1
        have HNE : Hid (gf ≠ gb ∧ gf ≠ g) := Lib.hid (by have y1 := (Array.getElem?_eq_some_iff.1 HBF.out.row).1; have y2 := HBF.out.bk.lt; omega)
        have HSF := Lib.hid hsf.out
        clear hsf hof hb4 HFI HBW HBF hgf hz3
        have HWB := Lib.hid (writeByte_any gb g C F P x w4 HBF4.out hx hPC)
        go_wp2_with fail
        refine HWB.out.mono ?_
        rintro e w5 ⟨rfl, hc5, F5, hbf5, hft5⟩
        have HB5 := Lib.hid (HB4.out.trans (hc5.below (B := w.heap.size) HB4.out.size (fun k hk => by have := HGE.out; rcases hk with rfl | rfl <;> omega)))
        have hs5 : Bs w5 (some ⟨gf, 0, none⟩) t t (Fi.flt (x : Nat) (Fi.rowI l t k) (Fi.ahI l t k) q) := ⟨HSF.out.hlen, HSF.out.hle, HSF.out.hcap, HSF.out.hmax, HSF.out.hnil, fun i hi => by
          obtain ⟨b', o', e', hl', hc'⟩ := HSF.out.at' i hi
          simp only [Option.some.injEq, Addr.mk.injEq, and_true] at e'
          obtain ⟨rfl, rfl⟩ := e'
          exact ⟨gf, 0, rfl, Nat.lt_of_lt_of_le hl' hc5.size, by rw [World.cell?_of_block (hc5.block gf hl' (fun e => e.elim HNE.out.1 HNE.out.2))]; exact hc'⟩⟩
        have HWR := Lib.hid (write_any gb g C F5 (P + 1) t t (some ⟨gf, 0, none⟩) _ w5 hbf5 (by omega) ht hs5 (fun ad e => by simp only [Option.some.injEq] at e; subst e; exact HNE.out))
        rw [hft5, HFT.out] at HWR
        clear hc5 hbf5 hft5 hs5 HSF HNE HBF4 HB4 HWB
        go_wp2_with fail
        refine HWR.out.mono ?_
        rintro e w6 ⟨rfl, hc6, F6, hbf6, hft6⟩
        have HX6 : Hid (Below w.heap.size w w6 ∧ ∃ F, Bf w6 gb g C F P2 ∧ F.take P2 = Fi.rolN l t q ks (k + 1)) := Lib.hid ⟨HB5.out.trans (hc6.below (B := w.heap.size) HB5.out.size (fun k hk => by have := HGE.out; rcases hk with rfl | rfl <;> omega)), F6, by
          have e9 : P2 = P + 1 + t := HP2.out.1
          rw [e9]
          refine ⟨hbf6, ?_⟩
          rw [hft6, HRN.out]⟩
        clear hc6 hbf6 hft6 HWR HB5
        go_wp2
        go_roundw
        case rel => exact ⟨k + 1, P2, _, _, _, by omega, by go_num, rfl, Lib.hid HP2.out.2, Lib.hid ⟨HAH2.out.1, .inr rfl⟩, HX6⟩
        case measure => simp [intOf]; omega
      · rw [if_neg hz] at hkdef
        rw [hkdef] at hrn hkd
        obtain ⟨x, hx⟩ : ∃ x : Nat, ks.getD k 0 = x := ⟨(ks.getD k 0).toNat, by omega⟩
        rw [hx] at c0 hrn hkd
        rw [Int.toNat_natCast] at hrn
        have hx : x < 256 := by omega
        have hxm : (x : Int) % 256 = (x : Int) := by omega
        have hxn : ((x : Int) == -1) = false := by simp
        have HFI := Lib.hid (fun W hb => HFI0.out (x : Int) W hkd.1 hkd.2 hb)
        have HRN := Lib.hid hrn
        have HBW := HBW0
        clear hz hkdef hrn hkd hkat hgr hbw hbf hft HX HFI0 HRS HAH hA hnk hP2 hrb HLI HBW0
        go_wp2_with fail
        refine (HROW.out _).mono ?_
        rintro e w' ⟨rfl, rfl⟩
        clear HROW c0
        go_wp2_with fail
        refine (HFI.out _ HBW.out).mono ?_
        rintro e w4 ⟨gf, rfl, hsf, hof, hb4⟩
        have hz3 := HBW.out.size
        have HB4 := Lib.hid (below_then HBW.out hb4)
        have HBF4 := Lib.hid (HBF.out.below hb4)
        have hgf := (hof.out.lt gf rfl).1
        have HNE : Hid (gf ≠ gb ∧ gf ≠ g) := Lib.hid (by have y1 := (Array.getElem?_eq_some_iff.1 HBF.out.row).1; have y2 := HBF.out.bk.lt; omega)
        have HSF := Lib.hid hsf.out
        clear hsf hof hb4 HFI HBW HBF hgf hz3
        have HWB := Lib.hid (writeByte_any gb g C F P x w4 HBF4.out hx hPC)
        go_wp2_with fail
        refine HWB.out.mono ?_
        rintro e w5 ⟨rfl, hc5, F5, hbf5, hft5⟩
        have HB5 := Lib.hid (HB4.out.trans (hc5.below (B := w.heap.size) HB4.out.size (fun k hk => by have := HGE.out; rcases hk with rfl | rfl <;> omega)))
        have hs5 : Bs w5 (some ⟨gf, 0, none⟩) t t (Fi.flt (x : Nat) (Fi.rowI l t k) (Fi.ahI l t k) q) := ⟨HSF.out.hlen, HSF.out.hle, HSF.out.hcap, HSF.out.hmax, HSF.out.hnil, fun i hi => by
          obtain ⟨b', o', e', hl', hc'⟩ := HSF.out.at' i hi
          simp only [Option.some.injEq, Addr.mk.injEq, and_true] at e'
          obtain ⟨rfl, rfl⟩ := e'
          exact ⟨gf, 0, rfl, Nat.lt_of_lt_of_le hl' hc5.size, by rw [World.cell?_of_block (hc5.block gf hl' (fun e => e.elim HNE.out.1 HNE.out.2))]; exact hc'⟩⟩
        have HWR := Lib.hid (write_any gb g C F5 (P + 1) t t (some ⟨gf, 0, none⟩) _ w5 hbf5 (by omega) ht hs5 (fun ad e => by simp only [Option.some.injEq] at e; subst e; exact HNE.out))
        rw [hft5, HFT.out] at HWR
        clear hc5 hbf5 hft5 hs5 HSF HNE HBF4 HB4 HWB
        go_wp2_with fail
        refine HWR.out.mono ?_
        rintro e w6 ⟨rfl, hc6, F6, hbf6, hft6⟩
        have HX6 : Hid (Below w.heap.size w w6 ∧ ∃ F, Bf w6 gb g C F P2 ∧ F.take P2 = Fi.rolN l t q ks (k + 1)) := Lib.hid ⟨HB5.out.trans (hc6.below (B := w.heap.size) HB5.out.size (fun k hk => by have := HGE.out; rcases hk with rfl | rfl <;> omega)), F6, by
          have e9 : P2 = P + 1 + t := HP2.out.1
          rw [e9]
          refine ⟨hbf6, ?_⟩
          rw [hft6, HRN.out]⟩
        clear hc6 hbf6 hft6 HWR HB5
        go_wp2
        go_roundw
        case rel => exact ⟨k + 1, P2, _, _, _, by omega, by go_num, rfl, Lib.hid HP2.out.2, Lib.hid ⟨HAH2.out.1, .inr rfl⟩, HX6⟩
        case measure => simp [intOf]; omega
    · obtain rfl : kl = k := by omega
      obtain ⟨hbw, F, hbf, hft⟩ := HX.out
      have HBY := Lib.hid (bufBytes_any gb g C F P _ hbf)
      have hbs := hbf.bk.bs 0 P C (by rw [hbf.len]; have := hbf.le; omega) hbf.le (by omega)
      rw [List.drop_zero, hft] at hbs
      have HBS := Lib.hid hbs
      have HBW := Lib.hid hbw
      clear hbw hbf hft hbs HX
      go_wp2_with fail
      refine HBY.out.mono ?_
      rintro e w7 ⟨rfl, hb7⟩
      have HF : Hid (Fi.RoPost w (Fi.rolN l t q ks kl) (kl * (t + 1)) (.returned (.tuple #[.slice (some ⟨g, 0, none⟩) P C, .nilIface])) w7) := Lib.hid ⟨below_then HBW.out hb7, g, C, HGE.out.1, hCb, by rw [← HP.out], by rw [← HP.out]; exact HBS.out.mono hb7⟩
      clear hb7 HBY HBS HBW
      go_wp2
      go_ret2
      exact HF.out
end Go.Proofs.YtbgaaocgdjkkeaaDoor
