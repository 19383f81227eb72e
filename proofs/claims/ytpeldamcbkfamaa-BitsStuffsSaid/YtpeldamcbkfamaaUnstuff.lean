/- Unstuffed bytes, and how many of them there are: their contracts. -/
import Derived.Test.YtpeldamcbkfamaaRef03d
namespace Go.Proofs.Ytpeldamcbkfamaa
open Go.RowKit

theorem taken_any (a : Option Addr) (len cap : Nat) (l : List UInt8) (w : World) (H : Bs w a len cap l) (hl : len ≤ 10000000) :
    Calls Try.prog 34 #[.slice a len cap] w fun e w' => e = .returned (.int .i64 (Sf.T l : Nat)) ∧ w = w' := by
  have HL := Lib.hid H.hlen
  have H0 := Lib.hid H
  clear H
  go_enter Try.func34, Try.ntmps34
  go_wp2
  go_loop [3] (fun i => ∃ k : Nat, k ≤ len ∧ i = .int .i64 k ∧ Hid (Sf.T l = k + Sf.T (l.drop k))) (fun i => len - (intOf i).toNat)
  case atStart => exact ⟨0, by omega, rfl, Lib.hid (by simp)⟩
  case round =>
    obtain ⟨k, hk, rfl, HT⟩ := hrel
    by_cases hlt : k < len
    · obtain ⟨b, off, rfl, hbl, hcell⟩ := H0.out.at' k hlt
      have hg := gb_lt l k
      by_cases h255 : gb l k = 255
      · by_cases h1 : k + 1 < len
        · have hcell1 := cell_again H0.out (k + 1) h1
          have hg1 := gb_lt l (k + 1)
          rw [h255] at hcell
          by_cases h0 : gb l (k + 1) = 0
          · have HU := Lib.hid (Sf.un_pair l k (by rw [HL.out]; exact h1) ((Sf.byte_eq l k 255 (by omega)).1 h255) ((Sf.byte_eq l (k + 1) 0 (by omega)).1 h0)).2
            rw [h0] at hcell1
            clear h255 hg h0 hg1
            go_wp2
            go_round
            case rel => exact ⟨k + 2, by omega, by go_num, Lib.hid (by rw [HT.out, HU.out]; omega)⟩
            case measure => simp [intOf]; omega
          · have HU := Lib.hid (Sf.un_stop l k (by rw [HL.out]; exact hlt) ((Sf.byte_eq l k 255 (by omega)).1 h255) (fun _ h => h0 ((Sf.byte_eq l (k + 1) 0 (by omega)).2 h))).2
            have hne : ((gb l (k + 1) : Int) == 0) = false := by simpa using h0
            clear h255 hg h0
            generalize gb l (k + 1) = y at *
            go_wp2
            go_ret
            exact ⟨ret_int (by rw [HT.out, HU.out]; rfl), rfl⟩
        · have HU := Lib.hid (Sf.un_stop l k (by rw [HL.out]; exact hlt) ((Sf.byte_eq l k 255 (by omega)).1 h255) (fun h => absurd (by rw [HL.out] at h; exact h) h1)).2
          rw [h255] at hcell
          have d1 : decide ((k : Int) + 1 < (len : Int)) = false := by simp; omega
          clear h255 hg
          go_wp2
          go_ret
          exact ⟨ret_int (by rw [HT.out, HU.out]; rfl), rfl⟩
      · have HU := Lib.hid (Sf.un_low l k (by rw [HL.out]; exact hlt) (fun h => h255 ((Sf.byte_eq l k 255 (by omega)).2 h))).2
        have hlow : decide ((gb l k : Int) < 255) = true := by simp; omega
        clear h255 hg
        generalize gb l k = x at *
        go_wp2
        go_round
        case rel => exact ⟨k + 1, by omega, by go_num, Lib.hid (by rw [HT.out, HU.out]; omega)⟩
        case measure => simp [intOf]; omega
    · obtain rfl : len = k := by omega
      have HU := Lib.hid (Sf.un_end l len (by rw [HL.out]; exact Nat.le_refl _)).2
      go_wp2
      go_ret
      exact ⟨ret_int (by rw [HT.out, HU.out]; rfl), rfl⟩

def UnstuffPost (w : World) (l : List UInt8) (e : Ending) (w' : World) : Prop :=
  ∃ v, e = .returned (.tuple #[v, .int .i64 (Sf.T l : Nat)]) ∧ w'.ownsRow w.heap.size 5 1 v (Sf.U l).length (bvs (Sf.U l)) ∧ Below w.heap.size w w'
/-- What was unstuffed so far, and what is still to be. -/
def Sf.Mid (l u : List UInt8) (k : Nat) : Prop := Sf.U l = u ++ Sf.U (l.drop k) ∧ Sf.T l = k + Sf.T (l.drop k) ∧ u.length ≤ k
set_option maxHeartbeats 2000000 in
theorem unstuff_any (a : Option Addr) (len cap : Nat) (l : List UInt8) (w : World) (H : Bs w a len cap l) (hl : len ≤ 10000000) :
    Calls Try.prog 32 #[.slice a len cap] w (UnstuffPost w l) := by
  have HL := Lib.hid H.hlen
  have H0 := Lib.hid H
  clear H
  go_enter Try.func32, Try.ntmps32
  go_wp2
  go_loopw [4, 5] (fun v i wr => ∃ (k : Nat) (u : List UInt8), k ≤ len ∧ i = .int .i64 k ∧ Hid (Sf.Mid l u k) ∧ Below w.heap.size w wr ∧ Hid (wr.ownsRow w.heap.size 5 1 v u.length (bvs u))) (fun _ i _ => len - (intOf i).toNat)
  case atStart => exact ⟨0, [], by omega, rfl, Lib.hid ⟨by simp, by simp, by simp⟩, Below.refl _ _, Lib.hid (World.ownsRow_nil _ _ _ _)⟩
  case round =>
    obtain ⟨k, u, hk, rfl, HM, hb, HO⟩ := hrel
    have hz := hb.size
    have hul := HM.out.2.2
    by_cases hlt : k < len
    · obtain ⟨b, off, rfl, hbl, hcell⟩ := (H0.out.mono hb).at' k hlt
      have hg := gb_lt l k
      have hu : bvs [UInt8.ofNat (gb l k)] = bvs [l.getD k 0] := by simp [gb]
      have hsrc := src_b wr (gb l k) hg
      rw [hu] at hsrc
      have H2 := Lib.hid (HO.out.alloc (.cells #[Value.int .u8 (gb l k : Nat)] 5))
      have hbb : w.heap.size ≤ (wr.alloc (.cells #[Value.int .u8 (gb l k : Nat)] 5)).heap.size := by simp; omega
      clear hu
      by_cases h255 : gb l k = 255
      · by_cases h1 : k + 1 < len
        · have hcell1 := cell_again (H0.out.mono hb) (k + 1) h1
          have hg1 := gb_lt l (k + 1)
          by_cases h0 : gb l (k + 1) = 0
          · have HU := Lib.hid (Sf.un_pair l k (by rw [HL.out]; exact h1) ((Sf.byte_eq l k 255 (by omega)).1 h255) ((Sf.byte_eq l (k + 1) 0 (by omega)).1 h0))
            rw [h0] at hcell1
            rw [h255] at hcell hsrc H2 hbb
            clear h255 hg h0 hg1
            have d1 : ((k : Int) + 1 == (len : Int)) = false := by simp; omega
            go_wp2_with (at_builtin; refine wpl_append tyB rfl _ _ rfl H2.out hsrc rfl rfl (by omega) (by omega) hbb ?_)
            intro v2 w2 own2 hg2 _
            have hb2 : Below w.heap.size w w2 := (hb.alloc hz _).grown hg2 hbb (fun k hk => (H2.out.lt k hk).1)
            rw [← bvs_append] at own2
            have H3 := Lib.hid own2
            have HM2 : Hid (Sf.Mid l (u ++ [l.getD k 0]) (k + 2)) := Lib.hid ⟨by rw [HM.out.1, HU.out.1, List.append_assoc]; rfl, by rw [HM.out.2.1, HU.out.2]; omega, by simp; omega⟩
            clear own2 hg2 hsrc H2 HO hb HM
            go_wp2
            go_roundw
            case rel => exact ⟨k + 2, u ++ [l.getD k 0], by omega, by go_num, HM2, hb2, by rw [List.length_append]; exact H3⟩
            case measure => simp [intOf]; omega
          · have HU := Lib.hid (Sf.un_stop l k (by rw [HL.out]; exact hlt) ((Sf.byte_eq l k 255 (by omega)).1 h255) (fun _ h => h0 ((Sf.byte_eq l (k + 1) 0 (by omega)).2 h)))
            have hne : ((gb l (k + 1) : Int) != 0) = true := by simpa using h0
            have d1 : ((k : Int) + 1 == (len : Int)) = false := by simp; omega
            rw [h255] at hcell
            clear h255 hg h0 hsrc H2 hbb
            generalize gb l (k + 1) = y at *
            go_wp2
            go_ret2
            exact ⟨_, by rw [HM.out.2.1, HU.out.2]; rfl, by rw [HM.out.1, HU.out.1, List.append_nil]; exact HO.out, hb⟩
        · have HU := Lib.hid (Sf.un_stop l k (by rw [HL.out]; exact hlt) ((Sf.byte_eq l k 255 (by omega)).1 h255) (fun h => absurd (by rw [HL.out] at h; exact h) h1))
          rw [h255] at hcell
          have d1 : ((k : Int) + 1 == (len : Int)) = true := by simp; omega
          clear h255 hg hsrc H2 hbb
          go_wp2
          go_ret2
          exact ⟨_, by rw [HM.out.2.1, HU.out.2]; rfl, by rw [HM.out.1, HU.out.1, List.append_nil]; exact HO.out, hb⟩
      · have HU := Lib.hid (Sf.un_low l k (by rw [HL.out]; exact hlt) (fun h => h255 ((Sf.byte_eq l k 255 (by omega)).2 h)))
        have hlow : gb l k < 255 := by omega
        have d255 : ((gb l k : Int) == 255) = false := by simp; omega
        clear h255 hg
        generalize gb l k = x at *
        go_wp2_with (at_builtin; refine wpl_append tyB rfl _ _ rfl H2.out hsrc rfl rfl (by omega) (by omega) hbb ?_)
        intro v2 w2 own2 hg2 _
        have hb2 : Below w.heap.size w w2 := (hb.alloc hz _).grown hg2 hbb (fun k hk => (H2.out.lt k hk).1)
        rw [← bvs_append] at own2
        have H3 := Lib.hid own2
        have HM2 : Hid (Sf.Mid l (u ++ [l.getD k 0]) (k + 1)) := Lib.hid ⟨by rw [HM.out.1, HU.out.1, List.append_assoc]; rfl, by rw [HM.out.2.1, HU.out.2]; omega, by simp; omega⟩
        clear own2 hg2 hsrc H2 HO hb HM
        go_wp2
        go_roundw
        case rel => exact ⟨k + 1, u ++ [l.getD k 0], by omega, by go_num, HM2, hb2, by rw [List.length_append]; exact H3⟩
        case measure => simp [intOf]; omega
    · obtain rfl : len = k := by omega
      have HU := Lib.hid (Sf.un_end l len (by rw [HL.out]; exact Nat.le_refl _))
      go_wp2
      go_ret2
      exact ⟨_, by rw [HM.out.2.1, HU.out.2]; rfl, by rw [HM.out.1, HU.out.1, List.append_nil]; exact HO.out, hb⟩
end Go.Proofs.Ytpeldamcbkfamaa
