/- The document's bytes of bits and bits of bytes: their contracts. -/
import Derived.Test.YtkjdekaipphlpaaRef03b
namespace Go.Proofs.Ytkjdekaipphlpaa
open Go.RowKit

def BytesPost (w : World) (h : Bool) (l : List Bool) (e : Ending) (w' : World) : Prop :=
  ∃ v, e = .returned v ∧ w'.ownsRow w.heap.size 5 1 v ((l.length + 7) / 8) (bvs (Bt.packs h h l)) ∧ Below w.heap.size w w'
/-- Some bits, what lacks filled. -/
def Bt.one (h : Bool) (l : List Bool) (k j : Nat) : List Bool := (List.range j).map fun i => l.getD (8 * k + i) h
theorem Bt.one_length (h : Bool) (l : List Bool) (k j : Nat) : (Bt.one h l k j).length = j := by simp [Bt.one]
theorem Bt.one_succ (h : Bool) (l : List Bool) (k j : Nat) : Bt.one h l k (j + 1) = Bt.one h l k j ++ [l.getD (8 * k + j) h] := by simp [Bt.one, List.range_succ]
theorem Bt.one_num (h : Bool) (l : List Bool) (k : Nat) : Bt.num h (Bt.one h l k 8) = Bt.pk h h l k := rfl
theorem Bt.packs_take (h f : Bool) (l : List Bool) (k : Nat) (hk : k < (l.length + 7) / 8) : (Bt.packs h f l).take (k + 1) = (Bt.packs h f l).take k ++ [UInt8.ofNat (Bt.pk h f l k)] := by
  have := Bt.packs_get h f l k hk
  rw [List.take_add_one, this]; rfl
theorem src_u8 (w : World) (x : Nat) (hx : x < 256) : SrcRow (w.alloc (.cells #[Value.int .u8 (x : Nat)] 5)) (some ⟨w.heap.size, 0, none⟩) 1 1 (bvs [UInt8.ofNat x]) 1 := by
  have : bvs [UInt8.ofNat x] = [Value.int .u8 (x : Nat)] := by simp [bvs]; omega
  rw [this]
  exact src_new w #[Value.int .u8 (x : Nat)] 5 1 1 1 rfl (fun u hu => by simp only [List.mem_singleton] at hu; subst hu; rfl)
set_option maxHeartbeats 2000000 in
theorem refBytes_any (h : Bool) (a : Option Addr) (len cap : Nat) (l : List Bool) (w : World) (H : Is .i64 w a len cap (bi l)) (hl : len ≤ 1000000) :
    Calls Try.prog 33 #[.slice a len cap, .bool h] w (BytesPost w h l) := by
  have hlen : l.length = len := by have := H.hlen; rwa [bi_length] at this
  have HL := Lib.hid hlen
  have H0 := Lib.hid H
  clear hlen H
  go_enter Try.func33, Try.ntmps33
  go_wp2
  go_loopw [5, 6] (fun v at' wr => ∃ k : Nat, k ≤ (len + 7) / 8 ∧ at' = .int .i64 (8 * k : Nat) ∧ Below w.heap.size w wr ∧ Hid (wr.ownsRow w.heap.size 5 1 v k (bvs ((Bt.packs h h l).take k)))) (fun _ at' _ => len + 8 - (intOf at').toNat)
  case atStart => exact ⟨0, by omega, rfl, Below.refl _ _, Lib.hid (World.ownsRow_nil _ _ _ _)⟩
  case round =>
    obtain ⟨k, hk, rfl, hb, HO⟩ := hrel
    have hz := hb.size
    by_cases hlt : 8 * k < len
    · have H1 := Lib.hid (H0.out.mono hb)
      have hsz : wr.heap.size = wr.heap.size := rfl
      clear hsz
      have dlt : decide (((8 * k : Nat) : Int) < (len : Int)) = true := by simp; omega
      obtain ⟨m, hm⟩ : ∃ m, m = 8 * k := ⟨_, rfl⟩
      rw [← hm] at dlt ⊢
      have Hm := Lib.hid hm
      have hmb : m ≤ 1000000 := by omega
      have hmlt : m < len := by omega
      clear hm hlt
      rename World => wo
      go_wp2
      go_loopw [7, 8] (fun u i wr => ∃ j : Nat, j ≤ 8 ∧ i = .int .i64 (m + j : Nat) ∧ Below wo.heap.size wo wr ∧ Hid (wr.ownsRow wo.heap.size 3 1 u j (ivs (bi (Bt.one h l k j))))) (fun _ i _ => m + 8 - (intOf i).toNat)
      case atStart => exact ⟨0, by omega, rfl, Below.refl _ _, Lib.hid (World.ownsRow_nil _ _ _ _)⟩
      case round =>
        obtain ⟨j, hj, rfl, hbi, HU⟩ := hrel
        have hzi := hbi.size
        by_cases hj8 : j < 8
        · have HS := Lib.hid (Bt.one_succ h l k j)
          by_cases hin : m + j < len
          · obtain ⟨b, off, rfl, hbl, hcell⟩ := (H1.out.mono hbi).at' (m + j) hin
            rw [bi_getD] at hcell
            have HG := Lib.hid (show l.getD (8 * k + j) h = l.getD (m + j) false by
              rw [← Hm.out]; simp only [List.getD]; rw [List.getElem?_eq_getElem (by rw [HL.out]; exact hin)]; rfl)
            have hbt : (l.getD (m + j) false).toNat < 2 := Bool.toNat_lt _
            have hsrc : SrcRow (wr.alloc (.cells #[Value.int .i64 ((l.getD (m + j) false).toNat : Int)] 3)) (some ⟨wr.heap.size, 0, none⟩) 1 1 (ivs (bi [l.getD (m + j) false])) 1 := src_int wr _
            have H2 := Lib.hid (HU.out.alloc (.cells #[Value.int .i64 ((l.getD (m + j) false).toNat : Int)] 3))
            generalize l.getD (m + j) false = t at *
            have dij : decide (((m + j : Nat) : Int) < (m : Int) + 8) = true := by simp; omega
            have din : decide (((m + j : Nat) : Int) < (len : Int)) = true := by simp; omega
            obtain ⟨i, hi⟩ : ∃ i, i = m + j := ⟨_, rfl⟩
            rw [← hi] at hcell dij din ⊢
            have Hi := Lib.hid hi
            have hi1 : i < len := by omega
            have hi2 : i < m + 8 := by omega
            have hbb : wo.heap.size ≤ (wr.alloc (.cells #[Value.int .i64 (t.toNat : Int)] 3)).heap.size := by simp; omega
            clear hi
            go_wp2_with (at_builtin; refine wpl_append tyI rfl _ _ rfl H2.out hsrc rfl rfl (by omega) (by omega) hbb ?_)
            intro v2 w2 own2 hg2 _
            have hb2 : Below wo.heap.size wo w2 := (hbi.alloc hzi _).grown hg2 hbb (fun k hk => (H2.out.lt k hk).1)
            rw [← ivs_append, ← bi_append, show Bt.one h l k j ++ [t] = Bt.one h l k (j + 1) by rw [HS.out, HG.out]] at own2
            have H3 := Lib.hid own2
            clear own2 hg2 hsrc H2 HU
            go_wp2
            go_roundw
            case rel => exact ⟨j + 1, by omega, by have := Hi.out; go_num, hb2, H3⟩
            case measure => have := Hi.out; simp [intOf]; omega
          · have HG := Lib.hid (show l.getD (8 * k + j) h = h by
              rw [← Hm.out]; simp only [List.getD]; rw [List.getElem?_eq_none (by rw [HL.out]; omega)]; rfl)
            have hbb : wo.heap.size ≤ (wr.alloc (.cells #[Value.int .i64 (h.toNat : Int)] 3)).heap.size := by simp; omega
            have hsrc : SrcRow (wr.alloc (.cells #[Value.int .i64 (h.toNat : Int)] 3)) (some ⟨wr.heap.size, 0, none⟩) 1 1 (ivs (bi [h])) 1 := src_int wr _
            have H2 := Lib.hid (HU.out.alloc (.cells #[Value.int .i64 (h.toNat : Int)] 3))
            have dij : decide (((m + j : Nat) : Int) < (m : Int) + 8) = true := by simp; omega
            have din : decide (((m + j : Nat) : Int) < (len : Int)) = false := by simp; omega
            obtain ⟨i, hi⟩ : ∃ i, i = m + j := ⟨_, rfl⟩
            rw [← hi] at dij din ⊢
            have Hi := Lib.hid hi
            have hi1 : ¬ i < len := by omega
            have hi2 : i < m + 8 := by omega
            clear hi
            cases h
            all_goals
              simp only [Bool.toNat_false, Bool.toNat_true, Int.natCast_zero, Int.cast_ofNat_Int] at hbb hsrc H2
              go_wp2_with (at_builtin; refine wpl_append tyI rfl _ _ rfl H2.out hsrc rfl rfl (by omega) (by omega) hbb ?_)
              intro v2 w2 own2 hg2 _
              have hb2 : Below wo.heap.size wo w2 := (hbi.alloc hzi _).grown hg2 hbb (fun k hk => (H2.out.lt k hk).1)
              rw [← ivs_append, ← bi_append] at own2
              have H3 := Lib.hid own2
              clear own2 hg2 hsrc H2 HU
              go_wp2
              go_roundw
              case rel => exact ⟨j + 1, by omega, by have := Hi.out; go_num, hb2, by rw [HS.out, HG.out]; exact H3⟩
              case measure => have := Hi.out; simp [intOf]; omega
        · obtain rfl : j = 8 := by omega
          have dij : decide (((m + 8 : Nat) : Int) < (m : Int) + 8) = false := by simp
          have HB := Lib.hid (below_then hb hbi)
          have HV := Lib.hid (own_below HO.out hbi)
          obtain ⟨ua, uc, rfl, his⟩ := own_is HU.out (bi_wf _)
          have HIS := Lib.hid his
          clear his HU hbi
          go_wp2_with fail
          refine (number_any h _ _ _ _ _ HIS.out (by omega)).mono ?_
          rintro e w' ⟨rfl, rfl⟩
          rw [Bt.one_num]
          have hpk := Bt.pk_lt h h l k
          have HT := Lib.hid (Bt.packs_take h h l k (by have := Hm.out; rw [HL.out]; omega))
          generalize Bt.pk h h l k = p at *
          have e1 : (p : Int) % 256 = p := by omega
          have hsrc := src_u8 wr p hpk
          have H2 := Lib.hid (HV.out.alloc (.cells #[Value.int .u8 (p : Nat)] 5))
          have hbb : w.heap.size ≤ (wr.alloc (.cells #[Value.int .u8 (p : Nat)] 5)).heap.size := by have := HB.out.size; simp; omega
          have hk1 : k ≤ 1000000 := by have := Hm.out; omega
          clear HIS
          go_wp2_with (at_builtin; refine wpl_append tyB rfl _ _ rfl H2.out hsrc rfl rfl (by omega) (by omega) hbb ?_)
          intro v2 w2 own2 hg2 _
          have hb2 : Below w.heap.size w w2 := (HB.out.alloc HB.out.size _).grown hg2 hbb (fun k hk => (H2.out.lt k hk).1)
          rw [← bvs_append, ← HT.out] at own2
          have H3 := Lib.hid own2
          clear own2 hg2 hsrc H2 HV HO HB hb e1
          go_wp2
          go_roundw
          case rel => exact ⟨k + 1, by have := Hm.out; omega, by have := Hm.out; go_num, hb2, H3⟩
          case measure => simp [intOf]; omega
    · have dlt : decide (((8 * k : Nat) : Int) < (len : Int)) = false := by simp; omega
      obtain rfl : k = (len + 7) / 8 := by omega
      go_wp2
      go_ret
      refine ⟨_, rfl, ?_, hb⟩
      have := HO.out
      rwa [List.take_of_length_le (by rw [Bt.packs_length, HL.out]; exact Nat.le_refl _), ← HL.out] at this
end Go.Proofs.Ytkjdekaipphlpaa
