/- For any bytes (of at most 60000, as the law itself asks) and any cuts (of at most 50): the bytes in blocks of kind 0, parted at the cuts, are unpacked to themselves, all of the blocks' bytes are read, and with one byte fewer at most it is ErrTooLarge. inflate.lengthOrder holds what the program's text lays (the tied card). -/
import Derived.Test.YtbohhdakbgnaeaaDoorCards
import Derived.Test.YtbohhdakbgnaeaaDoorTie
import Derived.ProofKit
import Derived.Handy
import Derived.Lay
import Derived.SevenTiedAt
import Derived.Test.YtbohhdakbgnaeaaDoorRows
import Derived.Test.YtbohhdakbgnaeaaDoorZ17
namespace Go.Proofs.YtbohhdakbgnaeaaDoor.InflateStored
open Go.ChangeShapes Go.WideShapes Go.ChangeAt Go.RowKit
open Go.ChangeMaps (open_string shut_string)
set_option linter.unusedVariables false
theorem own : ownKnob Tryd.prog.godebug = none := by kernel_rfl
theorem laidOut : laidOutB Tryd.prog = true := by kernel_rfl
theorem src_zero (w : World) (ao : Option Addr) (c : Nat) (h : ao = none → c = 0) : SrcRow w ao 0 c (bvs []) 1 := ⟨rfl, fun e => ⟨rfl, h e⟩, fun ad e j u hu => by simp [bvs] at hu, fun u hu => by simp [bvs] at hu⟩
set_option maxRecDepth 100000 in
set_option maxHeartbeats 4000000 in
theorem walk (a : Option Addr) (len cap : Nat) (l : List UInt8) (ac : Option Addr) (n cc : Nat) (cs : List Int) (w : World) (h : Bs w a len cap l) (hr : cap ≤ 140737488351232) (hc : Is .i64 w ac n cc cs) (hcr : cc * 8 ≤ 140737488351232) (hL : laidMetH Tryd.prog [("burnish/inflate.lengthOrder", Rows.laid_burnish_inflate_lengthOrder)] w) :
    Calls Tryd.prog 4 #[.slice a len cap, .slice ac n cc] w fun e w' => e = .returned (.bool true) ∧ Below w.heap.size w w' := by
  have hle := h.hle
  have HL := Lib.hid h.hlen
  have H := Lib.hid h
  have hcle := hc.hle
  have HC := Lib.hid hc
  clear h hc hL
  have HA := Lib.hid (alive_any w)
  go_enter Tryd.func4, Tryd.ntmps4
  go_wp2_with fail
  refine HA.out.mono ?_
  rintro e w1 ⟨rfl, hb1⟩
  have HB1 := Lib.hid hb1
  clear hb1 HA
  by_cases hbig : 60000 < len
  · have d1 : decide ((60000 : Int) < (len : Int)) = true := by simp; omega
    go_wp2
    go_ret
    exact ⟨rfl, HB1.out⟩
  have d1 : decide ((60000 : Int) < (len : Int)) = false := by simp; omega
  by_cases hbig2 : 50 < n
  · have d2 : decide ((50 : Int) < (n : Int)) = true := by simp; omega
    go_wp2
    go_ret
    exact ⟨rfl, HB1.out⟩
  have d2 : decide ((50 : Int) < (n : Int)) = false := by simp; omega
  have HB2 := Lib.hid (below_then HB1.out (below_alloc w1 (.cells #[] 5)))
  have HO2 := Lib.hid (own_new w1 w1.heap.size 5 #[] [] (Nat.le_refl _) (by simp) 0 rfl rfl)
  have HZ2 := Lib.hid (show w1.heap.size ≤ (w1.alloc (.cells #[] 5)).heap.size by simp)
  go_wp2
  revert HB2 HO2 HZ2
  generalize World.alloc _ _ = w2
  intro HB2 HO2 HZ2
  go_loopw [5, 6, 7] (fun v t i wr => ∃ (j k : Nat) (p : List UInt8), j ≤ n + 1 ∧ k ≤ len ∧ i = .int .i64 j ∧ t = .int .i64 k ∧ p.length = 5 * j + k ∧ Hid (Ip.Sb l n j k p ∧ wr.ownsRow w1.heap.size 5 1 v p.length (bvs p) ∧ Below w.heap.size w wr ∧ w1.heap.size ≤ wr.heap.size)) (fun _ _ i _ => n + 1 - (intOf i).toNat)
  case atStart => exact ⟨0, 0, [], by omega, by omega, rfl, rfl, rfl, Lib.hid ⟨Ip.sb_zero l n, HO2.out, HB2.out, HZ2.out⟩⟩
  case round =>
    obtain ⟨j, k, p, hj, hk, rfl, rfl, hpl, HX⟩ := hrel
    by_cases hjn : j < n
    · obtain ⟨b, off, rfl, hb, hcell⟩ := (HC.out.mono HX.out.2.2.1).at' j hjn
      generalize cs.getD j 0 = c at *
      obtain ⟨q, hq, hqle⟩ := Ip.cut_nat c len k hk (by omega)
      have hown := (HX.out.2.1).alloc (.cells #[Value.int .u8 0, .int .u8 ((q : Int) % 256), .int .u8 ((q : Int) / 256), .int .u8 (bits .xor .u8 IntKind.u8.max ((q : Int) % 256)), .int .u8 (bits .xor .u8 IntKind.u8.max ((q : Int) / 256))] 5)
      have hsrc := (bs_new wr _ rfl (Ip.head 0 q) 5 (0, 0) 5 rfl (by omega) #[Value.int .u8 0, .int .u8 ((q : Int) % 256), .int .u8 ((q : Int) / 256), .int .u8 (bits .xor .u8 IntKind.u8.max ((q : Int) % 256)), .int .u8 (bits .xor .u8 IntKind.u8.max ((q : Int) / 256))] (Ip.head_cells 0 q 0 rfl (by omega))).src
      have hbase : w1.heap.size ≤ (wr.alloc (.cells #[Value.int .u8 0, .int .u8 ((q : Int) % 256), .int .u8 ((q : Int) / 256), .int .u8 (bits .xor .u8 IntKind.u8.max ((q : Int) % 256)), .int .u8 (bits .xor .u8 IntKind.u8.max ((q : Int) / 256))] 5)).heap.size := by have := HX.out.2.2.2; simp; omega
      go_wp2_with (at_builtin; refine wpl_append tyB rfl _ _ rfl hown hsrc rfl rfl (by omega) (by omega) hbase ?_)
      intro v1 w4 own1 g1 _
      have hz1 := HB1.out.size
      have hb4 : Below w.heap.size w w4 := (HX.out.2.2.1.alloc HX.out.2.2.1.size _).grown g1 (Nat.le_trans hz1 hbase) (fun g hg => Nat.le_trans hz1 (hown.lt g hg).1)
      have hz4 : w1.heap.size ≤ w4.heap.size := Nat.le_trans hbase g1.size
      have HSB := Lib.hid (Ip.sb_next HX.out.1 hjn (k := q) (by rw [HL.out]; omega))
      rw [← bvs_append] at own1
      have H4 := Lib.hid (And.intro own1 (And.intro hb4 hz4))
      clear own1 g1 hb4 hz4 hown hsrc hbase hq HX hcell hb
      by_cases hq0 : q = 0
      · subst hq0
        rw [List.take_zero] at HSB
        cases a with
        | none =>
          have z3 : cap ≤ k := by have := H.out.nil0 rfl; omega
          go_wp2_with (at_builtin; refine wpl_append tyB rfl _ _ rfl H4.out.1 (src_zero _ none _ (fun _ => by omega)) rfl rfl (by omega) (by omega) H4.out.2.2 ?_)
          intro v2 w5 own2 g2 _
          have hz1 := HB1.out.size
          have hb5 : Below w.heap.size w w5 := H4.out.2.1.grown g2 (Nat.le_trans hz1 H4.out.2.2) (fun g hg => Nat.le_trans hz1 (H4.out.1.lt g hg).1)
          have hz5 : w1.heap.size ≤ w5.heap.size := Nat.le_trans H4.out.2.2 g2.size
          rw [← bvs_append, List.append_assoc] at own2
          have hpl2 : (p ++ (Ip.head 0 0 ++ [])).length = 5 * (j + 1) + (k + 0) := HSB.out.2.1
          have H5 : Hid (Ip.Sb l n (j + 1) (k + 0) (p ++ (Ip.head 0 0 ++ [])) ∧ w5.ownsRow w1.heap.size 5 1 v2 (p ++ (Ip.head 0 0 ++ [])).length (bvs (p ++ (Ip.head 0 0 ++ []))) ∧ Below w.heap.size w w5 ∧ w1.heap.size ≤ w5.heap.size) := Lib.hid ⟨HSB.out, by rw [hpl2]; exact (congrArg (fun N => w5.ownsRow w1.heap.size 5 1 v2 N (bvs (p ++ (Ip.head 0 0 ++ [])))) (show _ = 5 * (j + 1) + (k + 0) by omega)).mp own2, hb5, hz5⟩
          clear own2 g2 hb5 hz5 HSB H4
          generalize (p ++ (Ip.head 0 0 ++ [])) = p2 at *
          go_wp2
          go_roundw
          case rel => exact ⟨j + 1, k + 0, p2, by omega, by omega, by go_num, by go_num, hpl2, H5⟩
          case measure => simp [intOf]; omega
        | some ad =>
          by_cases hck : cap ≤ k
          · go_wp2_with (at_builtin; refine wpl_append tyB rfl _ _ rfl H4.out.1 (src_zero _ (some _) _ (fun h => by cases h)) rfl rfl (by omega) (by omega) H4.out.2.2 ?_)
            intro v2 w5 own2 g2 _
            have hz1 := HB1.out.size
            have hb5 : Below w.heap.size w w5 := H4.out.2.1.grown g2 (Nat.le_trans hz1 H4.out.2.2) (fun g hg => Nat.le_trans hz1 (H4.out.1.lt g hg).1)
            have hz5 : w1.heap.size ≤ w5.heap.size := Nat.le_trans H4.out.2.2 g2.size
            rw [← bvs_append, List.append_assoc] at own2
            have hpl2 : (p ++ (Ip.head 0 0 ++ [])).length = 5 * (j + 1) + (k + 0) := HSB.out.2.1
            have H5 : Hid (Ip.Sb l n (j + 1) (k + 0) (p ++ (Ip.head 0 0 ++ [])) ∧ w5.ownsRow w1.heap.size 5 1 v2 (p ++ (Ip.head 0 0 ++ [])).length (bvs (p ++ (Ip.head 0 0 ++ []))) ∧ Below w.heap.size w w5 ∧ w1.heap.size ≤ w5.heap.size) := Lib.hid ⟨HSB.out, by rw [hpl2]; exact (congrArg (fun N => w5.ownsRow w1.heap.size 5 1 v2 N (bvs (p ++ (Ip.head 0 0 ++ [])))) (show _ = 5 * (j + 1) + (k + 0) by omega)).mp own2, hb5, hz5⟩
            clear own2 g2 hb5 hz5 HSB H4
            generalize (p ++ (Ip.head 0 0 ++ [])) = p2 at *
            go_wp2
            go_roundw
            case rel => exact ⟨j + 1, k + 0, p2, by omega, by omega, by go_num, by go_num, hpl2, H5⟩
            case measure => simp [intOf]; omega
          · go_wp2_with (at_builtin; refine wpl_append tyB rfl _ _ rfl H4.out.1 (src_zero _ (some _) _ (fun h => by cases h)) rfl rfl (by omega) (by omega) H4.out.2.2 ?_)
            intro v2 w5 own2 g2 _
            have hz1 := HB1.out.size
            have hb5 : Below w.heap.size w w5 := H4.out.2.1.grown g2 (Nat.le_trans hz1 H4.out.2.2) (fun g hg => Nat.le_trans hz1 (H4.out.1.lt g hg).1)
            have hz5 : w1.heap.size ≤ w5.heap.size := Nat.le_trans H4.out.2.2 g2.size
            rw [← bvs_append, List.append_assoc] at own2
            have hpl2 : (p ++ (Ip.head 0 0 ++ [])).length = 5 * (j + 1) + (k + 0) := HSB.out.2.1
            have H5 : Hid (Ip.Sb l n (j + 1) (k + 0) (p ++ (Ip.head 0 0 ++ [])) ∧ w5.ownsRow w1.heap.size 5 1 v2 (p ++ (Ip.head 0 0 ++ [])).length (bvs (p ++ (Ip.head 0 0 ++ []))) ∧ Below w.heap.size w w5 ∧ w1.heap.size ≤ w5.heap.size) := Lib.hid ⟨HSB.out, by rw [hpl2]; exact (congrArg (fun N => w5.ownsRow w1.heap.size 5 1 v2 N (bvs (p ++ (Ip.head 0 0 ++ [])))) (show _ = 5 * (j + 1) + (k + 0) by omega)).mp own2, hb5, hz5⟩
            clear own2 g2 hb5 hz5 HSB H4
            generalize (p ++ (Ip.head 0 0 ++ [])) = p2 at *
            go_wp2
            go_roundw
            case rel => exact ⟨j + 1, k + 0, p2, by omega, by omega, by go_num, by go_num, hpl2, H5⟩
            case measure => simp [intOf]; omega
      · obtain ⟨b0, off0, e0, _, _⟩ := H.out.at' 0 (by omega)
        subst e0
        have hck : ¬ cap ≤ k := by omega
        have hsl : SrcRow w4 (some ⟨b0, off0 + k, none⟩) (k + q - k) (cap - k) (bvs ((l.drop k).take q)) 1 := by rw [Nat.add_sub_cancel_left]; exact ((((H.out.mono H4.out.2.1).drop k hk _ (fun _ => rfl)).take q (by omega)).src)
        go_wp2_with (at_builtin; refine wpl_append tyB rfl _ _ rfl H4.out.1 hsl rfl rfl (by omega) (by omega) H4.out.2.2 ?_)
        intro v2 w5 own2 g2 _
        have hz1 := HB1.out.size
        have hb5 : Below w.heap.size w w5 := H4.out.2.1.grown g2 (Nat.le_trans hz1 H4.out.2.2) (fun g hg => Nat.le_trans hz1 (H4.out.1.lt g hg).1)
        have hz5 : w1.heap.size ≤ w5.heap.size := Nat.le_trans H4.out.2.2 g2.size
        rw [← bvs_append, List.append_assoc] at own2
        have hpl2 : (p ++ (Ip.head 0 q ++ (l.drop k).take q)).length = 5 * (j + 1) + (k + q) := HSB.out.2.1
        have H5 : Hid (Ip.Sb l n (j + 1) (k + q) (p ++ (Ip.head 0 q ++ (l.drop k).take q)) ∧ w5.ownsRow w1.heap.size 5 1 v2 (p ++ (Ip.head 0 q ++ (l.drop k).take q)).length (bvs (p ++ (Ip.head 0 q ++ (l.drop k).take q))) ∧ Below w.heap.size w w5 ∧ w1.heap.size ≤ w5.heap.size) := Lib.hid ⟨HSB.out, by rw [hpl2]; exact (congrArg (fun N => w5.ownsRow w1.heap.size 5 1 v2 N (bvs (p ++ (Ip.head 0 q ++ (l.drop k).take q)))) (show _ = 5 * (j + 1) + (k + q) by omega)).mp own2, hb5, hz5⟩
        clear own2 g2 hb5 hz5 HSB H4
        generalize (p ++ (Ip.head 0 q ++ (l.drop k).take q)) = p2 at *
        go_wp2
        go_roundw
        case rel => exact ⟨j + 1, k + q, p2, by omega, by omega, by go_num, by go_num, hpl2, H5⟩
        case measure => simp [intOf]; omega
    by_cases hjn2 : j = n
    · subst hjn2
      obtain ⟨q, hq⟩ : ∃ q : Nat, (len : Int) - (k : Int) = (q : Int) := ⟨len - k, by omega⟩
      have hqle : q ≤ len - k := by omega
      have hown := (HX.out.2.1).alloc (.cells #[Value.int .u8 1, .int .u8 ((q : Int) % 256), .int .u8 ((q : Int) / 256), .int .u8 (bits .xor .u8 IntKind.u8.max ((q : Int) % 256)), .int .u8 (bits .xor .u8 IntKind.u8.max ((q : Int) / 256))] 5)
      have hsrc := (bs_new wr _ rfl (Ip.head 1 q) 5 (0, 0) 5 rfl (by omega) #[Value.int .u8 1, .int .u8 ((q : Int) % 256), .int .u8 ((q : Int) / 256), .int .u8 (bits .xor .u8 IntKind.u8.max ((q : Int) % 256)), .int .u8 (bits .xor .u8 IntKind.u8.max ((q : Int) / 256))] (Ip.head_cells 1 q 1 rfl (by omega))).src
      have hbase : w1.heap.size ≤ (wr.alloc (.cells #[Value.int .u8 1, .int .u8 ((q : Int) % 256), .int .u8 ((q : Int) / 256), .int .u8 (bits .xor .u8 IntKind.u8.max ((q : Int) % 256)), .int .u8 (bits .xor .u8 IntKind.u8.max ((q : Int) / 256))] 5)).heap.size := by have := HX.out.2.2.2; simp; omega
      go_wp2_with (at_builtin; refine wpl_append tyB rfl _ _ rfl hown hsrc rfl rfl (by omega) (by omega) hbase ?_)
      intro v1 w4 own1 g1 _
      have hz1 := HB1.out.size
      have hb4 : Below w.heap.size w w4 := (HX.out.2.2.1.alloc HX.out.2.2.1.size _).grown g1 (Nat.le_trans hz1 hbase) (fun g hg => Nat.le_trans hz1 (hown.lt g hg).1)
      have hz4 : w1.heap.size ≤ w4.heap.size := Nat.le_trans hbase g1.size
      have HSB : Hid (Ip.Sb l j (j + 1) (k + q) (p ++ (Ip.head 1 q ++ (l.drop k).take q))) := Lib.hid (by have h0 := Ip.sb_last HX.out.1; rw [show l.length - k = q by rw [HL.out]; omega] at h0; rw [show k + q = l.length by rw [HL.out]; omega]; exact h0)
      rw [← bvs_append] at own1
      have H4 := Lib.hid (And.intro own1 (And.intro hb4 hz4))
      clear own1 g1 hb4 hz4 hown hsrc hbase hq HX
      by_cases hq0 : q = 0
      · subst hq0
        rw [List.take_zero] at HSB
        cases a with
        | none =>
          have z3 : cap ≤ k := by have := H.out.nil0 rfl; omega
          go_wp2_with (at_builtin; refine wpl_append tyB rfl _ _ rfl H4.out.1 (src_zero _ none _ (fun _ => by omega)) rfl rfl (by omega) (by omega) H4.out.2.2 ?_)
          intro v2 w5 own2 g2 _
          have hz1 := HB1.out.size
          have hb5 : Below w.heap.size w w5 := H4.out.2.1.grown g2 (Nat.le_trans hz1 H4.out.2.2) (fun g hg => Nat.le_trans hz1 (H4.out.1.lt g hg).1)
          have hz5 : w1.heap.size ≤ w5.heap.size := Nat.le_trans H4.out.2.2 g2.size
          rw [← bvs_append, List.append_assoc] at own2
          have hpl2 : (p ++ (Ip.head 1 0 ++ [])).length = 5 * (j + 1) + (k + 0) := HSB.out.2.1
          have H5 : Hid (Ip.Sb l j (j + 1) (k + 0) (p ++ (Ip.head 1 0 ++ [])) ∧ w5.ownsRow w1.heap.size 5 1 v2 (p ++ (Ip.head 1 0 ++ [])).length (bvs (p ++ (Ip.head 1 0 ++ []))) ∧ Below w.heap.size w w5 ∧ w1.heap.size ≤ w5.heap.size) := Lib.hid ⟨HSB.out, by rw [hpl2]; exact (congrArg (fun N => w5.ownsRow w1.heap.size 5 1 v2 N (bvs (p ++ (Ip.head 1 0 ++ [])))) (show _ = 5 * (j + 1) + (k + 0) by omega)).mp own2, hb5, hz5⟩
          clear own2 g2 hb5 hz5 HSB H4
          generalize (p ++ (Ip.head 1 0 ++ [])) = p2 at *
          go_wp2
          go_roundw
          case rel => exact ⟨j + 1, k + 0, p2, by omega, by omega, by go_num, by go_num, hpl2, H5⟩
          case measure => simp [intOf] <;> omega
        | some ad =>
          by_cases hck : cap ≤ k
          · go_wp2_with (at_builtin; refine wpl_append tyB rfl _ _ rfl H4.out.1 (src_zero _ (some _) _ (fun h => by cases h)) rfl rfl (by omega) (by omega) H4.out.2.2 ?_)
            intro v2 w5 own2 g2 _
            have hz1 := HB1.out.size
            have hb5 : Below w.heap.size w w5 := H4.out.2.1.grown g2 (Nat.le_trans hz1 H4.out.2.2) (fun g hg => Nat.le_trans hz1 (H4.out.1.lt g hg).1)
            have hz5 : w1.heap.size ≤ w5.heap.size := Nat.le_trans H4.out.2.2 g2.size
            rw [← bvs_append, List.append_assoc] at own2
            have hpl2 : (p ++ (Ip.head 1 0 ++ [])).length = 5 * (j + 1) + (k + 0) := HSB.out.2.1
            have H5 : Hid (Ip.Sb l j (j + 1) (k + 0) (p ++ (Ip.head 1 0 ++ [])) ∧ w5.ownsRow w1.heap.size 5 1 v2 (p ++ (Ip.head 1 0 ++ [])).length (bvs (p ++ (Ip.head 1 0 ++ []))) ∧ Below w.heap.size w w5 ∧ w1.heap.size ≤ w5.heap.size) := Lib.hid ⟨HSB.out, by rw [hpl2]; exact (congrArg (fun N => w5.ownsRow w1.heap.size 5 1 v2 N (bvs (p ++ (Ip.head 1 0 ++ [])))) (show _ = 5 * (j + 1) + (k + 0) by omega)).mp own2, hb5, hz5⟩
            clear own2 g2 hb5 hz5 HSB H4
            generalize (p ++ (Ip.head 1 0 ++ [])) = p2 at *
            go_wp2
            go_roundw
            case rel => exact ⟨j + 1, k + 0, p2, by omega, by omega, by go_num, by go_num, hpl2, H5⟩
            case measure => simp [intOf] <;> omega
          · go_wp2_with (at_builtin; refine wpl_append tyB rfl _ _ rfl H4.out.1 (src_zero _ (some _) _ (fun h => by cases h)) rfl rfl (by omega) (by omega) H4.out.2.2 ?_)
            intro v2 w5 own2 g2 _
            have hz1 := HB1.out.size
            have hb5 : Below w.heap.size w w5 := H4.out.2.1.grown g2 (Nat.le_trans hz1 H4.out.2.2) (fun g hg => Nat.le_trans hz1 (H4.out.1.lt g hg).1)
            have hz5 : w1.heap.size ≤ w5.heap.size := Nat.le_trans H4.out.2.2 g2.size
            rw [← bvs_append, List.append_assoc] at own2
            have hpl2 : (p ++ (Ip.head 1 0 ++ [])).length = 5 * (j + 1) + (k + 0) := HSB.out.2.1
            have H5 : Hid (Ip.Sb l j (j + 1) (k + 0) (p ++ (Ip.head 1 0 ++ [])) ∧ w5.ownsRow w1.heap.size 5 1 v2 (p ++ (Ip.head 1 0 ++ [])).length (bvs (p ++ (Ip.head 1 0 ++ []))) ∧ Below w.heap.size w w5 ∧ w1.heap.size ≤ w5.heap.size) := Lib.hid ⟨HSB.out, by rw [hpl2]; exact (congrArg (fun N => w5.ownsRow w1.heap.size 5 1 v2 N (bvs (p ++ (Ip.head 1 0 ++ [])))) (show _ = 5 * (j + 1) + (k + 0) by omega)).mp own2, hb5, hz5⟩
            clear own2 g2 hb5 hz5 HSB H4
            generalize (p ++ (Ip.head 1 0 ++ [])) = p2 at *
            go_wp2
            go_roundw
            case rel => exact ⟨j + 1, k + 0, p2, by omega, by omega, by go_num, by go_num, hpl2, H5⟩
            case measure => simp [intOf] <;> omega
      · obtain ⟨b0, off0, e0, _, _⟩ := H.out.at' 0 (by omega)
        subst e0
        have hck : ¬ cap ≤ k := by omega
        have hsl : SrcRow w4 (some ⟨b0, off0 + k, none⟩) (k + q - k) (cap - k) (bvs ((l.drop k).take q)) 1 := by rw [Nat.add_sub_cancel_left]; exact ((((H.out.mono H4.out.2.1).drop k hk _ (fun _ => rfl)).take q (by omega)).src)
        go_wp2_with (at_builtin; refine wpl_append tyB rfl _ _ rfl H4.out.1 hsl rfl rfl (by omega) (by omega) H4.out.2.2 ?_)
        intro v2 w5 own2 g2 _
        have hz1 := HB1.out.size
        have hb5 : Below w.heap.size w w5 := H4.out.2.1.grown g2 (Nat.le_trans hz1 H4.out.2.2) (fun g hg => Nat.le_trans hz1 (H4.out.1.lt g hg).1)
        have hz5 : w1.heap.size ≤ w5.heap.size := Nat.le_trans H4.out.2.2 g2.size
        rw [← bvs_append, List.append_assoc] at own2
        have hpl2 : (p ++ (Ip.head 1 q ++ (l.drop k).take q)).length = 5 * (j + 1) + (k + q) := HSB.out.2.1
        have H5 : Hid (Ip.Sb l j (j + 1) (k + q) (p ++ (Ip.head 1 q ++ (l.drop k).take q)) ∧ w5.ownsRow w1.heap.size 5 1 v2 (p ++ (Ip.head 1 q ++ (l.drop k).take q)).length (bvs (p ++ (Ip.head 1 q ++ (l.drop k).take q))) ∧ Below w.heap.size w w5 ∧ w1.heap.size ≤ w5.heap.size) := Lib.hid ⟨HSB.out, by rw [hpl2]; exact (congrArg (fun N => w5.ownsRow w1.heap.size 5 1 v2 N (bvs (p ++ (Ip.head 1 q ++ (l.drop k).take q)))) (show _ = 5 * (j + 1) + (k + q) by omega)).mp own2, hb5, hz5⟩
        clear own2 g2 hb5 hz5 HSB H4
        generalize (p ++ (Ip.head 1 q ++ (l.drop k).take q)) = p2 at *
        go_wp2
        go_roundw
        case rel => exact ⟨j + 1, k + q, p2, by omega, by omega, by go_num, by go_num, hpl2, H5⟩
        case measure => simp [intOf] <;> omega
    obtain rfl : j = n + 1 := by omega
    obtain ⟨ap, cp, hv, hbp⟩ := own_bs HX.out.2.1 (by omega)
    have hpk : 5 * (n + 1) + k ≤ 1000000 := by omega
    have e1 := fun (most : Nat) => Ip.sb_end (dyn := dyn0) (most := most) HX.out.1 (by rw [HL.out]; omega) (by omega)
    have e8 : (8 * p.length + 7) / 8 = p.length := by omega
    have hU := fun (most : Nat) (hm : most ≤ 4194304) (w : World) (hw : Bs w ap p.length cp p) => inflate_any _ ap p.length cp (unpack_any (ls := false) (most := most) dyn0 mono_dyn0 ap p.length cp hw (by omega) hm (.inl ⟨fun _ _ _ => rfl, by rw [e1 most]; intro h; split at h <;> cases h⟩))
    have HI := Lib.hid (hU len (by omega) wr hbp)
    rw [e1 len, if_pos (by rw [HL.out]; exact Nat.le_refl _)] at HI
    have HB := Lib.hid hbp
    have HW := Lib.hid HX.out.2.2.1
    have HE1 := Lib.hid (e1 (len - 1))
    have HU := Lib.hid hU
    subst hv
    clear HX e1 hU hbp
    rw [hpl] at *
    go_wp2_with fail
    refine HI.out.mono ?_
    rintro e w5 ⟨v, rfl, hown, hch⟩
    have hbl := below_of_ch hch
    rw [HL.out] at hown
    obtain ⟨av, cv, rfl, hbv⟩ := own_bs hown (by omega)
    have H5 := Lib.hid (And.intro hbv (And.intro (H.out.mono (below_then HW.out hbl)) (And.intro (HB.out.mono hbl) (below_then HW.out hbl))))
    clear hch hbl hown hbv HI
    have e8 : (8 * (5 * (n + 1) + k) + 7) / 8 = 5 * (n + 1) + k := by omega
    rw [e8]
    clear e8
    have hHU : HU = HU := rfl
    clear hHU
    generalize 5 * (n + 1) + k = m at *
    have hsame : (l == l) = true := by simp
    go_wp2_with fail
    refine (same_any _ _ _ _ _ _ _ _ _ H5.out.1 H5.out.2.1).mono ?_
    rintro e w' ⟨rfl, rfl⟩
    rw [hsame]
    by_cases h0 : len = 0
    · have d0 : (((len : Nat) : Int) == 0) = true := by simpa using h0
      clear h0
      go_wp2
      go_ret
      exact ⟨rfl, H5.out.2.2.2⟩
    · have d0 : (((len : Nat) : Int) == 0) = false := by simpa using h0
      have hlen1 : 1 ≤ len := by omega
      have HI2 := Lib.hid (HU.out (len - 1) (by omega) w5 H5.out.2.2.1)
      rw [HE1.out, if_neg (by rw [HL.out]; omega), show ((len - 1 : Nat) : Int) = (len : Int) - 1 by omega] at HI2
      clear h0 HE1 HU
      go_wp2_with fail
      refine HI2.out.mono ?_
      rintro e w6 ⟨_, rfl, hch⟩
      have H6 := Lib.hid (below_then H5.out.2.2.2 (below_of_ch hch))
      clear hch HI2
      go_wp2_with fail
      refine (is_yes 4 rfl _).mono ?_
      rintro e w' ⟨rfl, rfl⟩
      go_wp2
      go_ret
      exact ⟨rfl, H6.out⟩
set_option maxRecDepth 100000 in
theorem lifted (os : Os) (started : os.Started) (H : Type) (enc : TypeId × Value → H) :
    ReturnsInHanded {} Tryd.checked os 4 .any (fun w args => (Rows.inflateStoredSpec.pre enc Tryd.prog Tryd.f4 Rows.inflateStoredRow.domain false w args ∧ laidMetH Tryd.prog [("burnish/inflate.lengthOrder", Rows.laid_burnish_inflate_lengthOrder)] w) ∧ sizedMet enc Tryd.prog Tryd.f4 (OpenSpec.ofChange Rows.inflateStoredSpec) false w args)
      (Rows.inflateStoredSpec.post enc Tryd.prog Tryd.f4 false true false false) := by
  refine returnsInHanded_of_change_and (C := Tryd.checked) (X := fun w _ => laidMetH Tryd.prog [("burnish/inflate.lengthOrder", Rows.laid_burnish_inflate_lengthOrder)] w) (fun _ _ _ hh h => h.of_heap hh) own started (by kernel_rfl) Tryd.func4
    (ChangeSpec.witness_shaped (enc := enc) (C := Tryd.checked) (os := os) (X := fun w _ => laidMetH Tryd.prog [("burnish/inflate.lengthOrder", Rows.laid_burnish_inflate_lengthOrder)] w) false (World.laidAll Tryd.prog os [("burnish/inflate.lengthOrder", Rows.laid_burnish_inflate_lengthOrder)]) #[.slice none 0 0, .slice none 0 0] 8 (World.laidAll_os _ _ _)
      (World.shaped_of_ZipB (by kernel_rfl) (by kernel_rfl)) (by kernel_rfl) (by kernel_rfl) (by kernel_rfl)
      (by rw [MakeChecks.laidMetH_plain _ _ _ (by kernel_rfl)]; exact laidMet_laidAll _ (by kernel_rfl) (by kernel_rfl))) ?_
  intro W base args ds gs before hval0 hW _ hsz0 hL _
  have hval : ∀ (j : Nat) t v, Tryd.f4.params[j]? = some t → args[j]? = some v → Value.okWide Tryd.prog W .any base t v := hval0
  have hsz : (DataW.weightsEach Tryd.prog (Tryd.f4.params.toList ++ Rows.inflateStoredSpec.plain.varTypes Tryd.prog) (ds ++ gs)).all (· ≤ reachBytes) = true := hsz0
  have hW' := hW
  obtain ⟨p, q, hA0, hV, rfl, hfz, hnd⟩ := hW
  have hA : DataW.TrodAll enc Tryd.prog W 0 (fun _ => true) true Tryd.f4.params.toList args.toList ds p := hA0
  rw [Tryd.params4] at hA hval hsz
  obtain ⟨v0, vs0, d0, ds0, p0, q0, hargs, rfl, rfl, h0, r0⟩ := trodAll_cons hA
  obtain ⟨v1, vs1, d1, ds1, p1, q1, rfl, rfl, rfl, h1, r1⟩ := trodAll_cons r0
  obtain ⟨rfl, rfl, rfl⟩ := trodAll_nil r1
  obtain rfl : args = #[v0, v1] := by cases args; simp_all
  obtain ⟨rfl, rfl⟩ := trodVars_none hV
  clear hsz0
  obtain ⟨a0, len0, cap0, rfl⟩ := okWide_slice Tryd.underlying22 (hval 0 22 v0 rfl rfl)
  have k0 := h0
  have lt0 : ∀ x ∈ p0, x.block < W.heap.size := by obtain ⟨m, hm⟩ := k0; exact DataW.trod_lt m _ _ _ hm
  obtain ⟨l0, w0, c0⟩ := open_bs Tryd.underlying22 Tryd.underlying5 (by kernel_rfl) (by kernel_rfl) h0 hsz 0 rfl rfl
  obtain ⟨a1, len1, cap1, rfl⟩ := okWide_slice Tryd.underlying37 (hval 1 37 v1 rfl rfl)
  have k1 := h1
  have lt1 : ∀ x ∈ p1, x.block < W.heap.size := by obtain ⟨m, hm⟩ := k1; exact DataW.trod_lt m _ _ _ hm
  obtain ⟨l1, w1, c1⟩ := open_is (by' := 8) Tryd.underlying37 Tryd.underlying3 (by kernel_rfl) (by kernel_rfl) h1 hsz 1 rfl rfl
  clear hA0 hval0 hsz
  refine (walk a0 len0 cap0 l0 a1 len1 cap1 l1 W w0 c0 w1 c1 hL).mono fun e W' ⟨he, bel⟩ => ?_
  subst he
  exact ⟨_, rfl, _, _, _, [], _, [], hW', trodAll_mk1 (shut_bool Tryd.underlying4 _), (trodAll_cons_mk (Below.trod laidOut (by kernel_rfl) (of_decide_eq_true (by kernel_rfl)) k0 bel lt0) (trodAll_cons_mk (Below.trod laidOut (by kernel_rfl) (of_decide_eq_true (by kernel_rfl)) k1 bel lt1) trodAll_mk0)), rfl, bel.frame _, fun h => by cases h⟩

theorem proved : Rows.InflateStoredSaid :=
  OpenClaim.holds_of_wide 4 Tryd.f4 rfl rfl rfl rfl rfl rfl rfl ⟨rfl, rfl, rfl, rfl, rfl⟩ rfl rfl rfl rfl rfl (by kernel_rfl) Tryd.func4 (by kernel_rfl)
    (of_decide_eq_true (by kernel_rfl)) (by unfold Func.isWrapper; first | (rw [if_pos (by decide +kernel)]; kernel_rfl) | (rw [if_neg (by decide +kernel)]; exact ⟨rfl, rfl⟩))
    (fun os started H enc _ => lifted os started H enc)
theorem card : Rows.InflateStoredCardSaid :=
  Claim7.holds_tied_plain_at .later [] [.data] true (true, "323f4d27744a4d86804b10305e3aa92a8683e815e80cdf6a4a576ba4e3bafd76") true proved (fun _ h => by cases h) (by kernel_rfl) (fun _ h => by cases h) inflateStored_row_tie rfl ⟨rfl, rfl⟩ (by kernel_rfl) rfl
    (fun f fn hf hfn => by
      obtain rfl : f = 4 := Option.some.inj ((show Tryd.prog.funcNamed "burnish/burnishlaw06.InflateStored" = some 4 by kernel_rfl).symm.trans hf) |>.symm
      obtain rfl : fn = Tryd.f4 := (Option.some.inj (Tryd.func4.symm.trans hfn)).symm
      exact ⟨by kernel_rfl, fun j t ht => by
        rw [Tryd.params4] at ht
        have hm : t ∈ [22, 37] := by simpa using Array.mem_of_getElem? ht
        have hall : ([22, 37].all fun u => !Tryd.prog.wantsStandIn u) = true := by kernel_rfl
        exact (show Tryd.prog.wantsStandIn t = false by simpa using List.all_eq_true.1 hall t hm)⟩)
    (by kernel_rfl)
#print axioms proved
#print axioms card
end Go.Proofs.YtbohhdakbgnaeaaDoor.InflateStored
