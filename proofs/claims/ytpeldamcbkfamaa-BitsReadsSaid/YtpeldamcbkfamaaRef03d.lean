/- Bits of bytes, and stuffed bytes, the document's and the program's: their contracts. -/
import Derived.Test.YtpeldamcbkfamaaRef03a
import Derived.Test.YtpeldamcbkfamaaStuffMath
import Derived.Test.YtpeldamcbkfamaaApartMem
namespace Go.Proofs.Ytpeldamcbkfamaa
open Go.RowKit

def BitsPost (w : World) (h : Bool) (l : List UInt8) (e : Ending) (w' : World) : Prop :=
  ∃ v, e = .returned v ∧ w'.ownsRow w.heap.size 3 1 v (8 * l.length) (ivs (bi (Bt.rbits h l))) ∧ Below w.heap.size w w'
theorem Bt.rbits_take (h : Bool) (l : List UInt8) (k : Nat) (hk : k < l.length) : Bt.rbits h (l.take (k + 1)) = Bt.rbits h (l.take k) ++ Bt.dg h (gb l k) 8 := by
  rw [take_succ_getD l k hk]; simp [Bt.rbits, gb]
set_option maxHeartbeats 1000000 in
theorem refBits_any (h : Bool) (a : Option Addr) (len cap : Nat) (l : List UInt8) (w : World) (H : Bs w a len cap l) (hl : len ≤ 1000000) :
    Calls Try.prog 25 #[.slice a len cap, .bool h] w (BitsPost w h l) := by
  have HL := Lib.hid H.hlen
  have H0 := Lib.hid H
  clear H
  go_enter Try.func25, Try.ntmps25
  go_wp2
  go_loopw [5, 6] (fun v i wr => ∃ k : Nat, k ≤ len ∧ i = .int .i64 k ∧ Below w.heap.size w wr ∧ Hid (wr.ownsRow w.heap.size 3 1 v (8 * k) (ivs (bi (Bt.rbits h (l.take k)))))) (fun _ i _ => len - (intOf i).toNat)
  case atStart => exact ⟨0, by omega, rfl, Below.refl _ _, Lib.hid (World.ownsRow_nil _ _ _ _)⟩
  case round =>
    obtain ⟨k, hk, rfl, hb, HO⟩ := hrel
    have hz := hb.size
    by_cases hlt : k < len
    · obtain ⟨b, off, rfl, hbl, hcell⟩ := (H0.out.mono hb).at' k hlt
      have hg := gb_lt l k
      have HT := Lib.hid (Bt.rbits_take h l k (by rw [HL.out]; exact hlt))
      generalize gb l k = x at *
      go_wp2_with fail
      refine (digits_any h x 8 _ (by omega) (by omega)).mono ?_
      rintro e w2 ⟨u, rfl, own2, hb2⟩
      have H2 := Lib.hid (own_below HO.out hb2)
      have hb3 := below_then hb hb2
      obtain ⟨ua, uc, rfl, his⟩ := own_is own2 (bi_wf _)
      have hsrc := his.src
      have hz3 := hb3.size
      clear own2 hb2 HO hb
      go_wp2_with (at_builtin; refine wpl_append tyI rfl _ _ rfl H2.out hsrc rfl rfl (by omega) (by omega) hz3 ?_)
      intro v3 w3 own3 hg3 _
      have hb4 : Below w.heap.size w w3 := hb3.grown hg3 hz3 (fun k hk => (H2.out.lt k hk).1)
      rw [← ivs_append, ← bi_append, ← HT.out, show 8 * k + 8 = 8 * (k + 1) by omega] at own3
      have H3 := Lib.hid own3
      clear own3 hg3 hsrc his H2 hb3
      go_wp2
      go_roundw
      case rel => exact ⟨k + 1, by omega, by go_num, hb4, H3⟩
      case measure => simp [intOf]; omega
    · obtain rfl : len = k := by omega
      go_wp2
      go_ret
      refine ⟨_, rfl, ?_, hb⟩
      have := HO.out
      rwa [List.take_of_length_le (by rw [HL.out]; exact Nat.le_refl _), ← HL.out] at this

theorem src_b (w : World) (x : Nat) (hx : x < 256) : SrcRow (w.alloc (.cells #[Value.int .u8 (x : Nat)] 5)) (some ⟨w.heap.size, 0, none⟩) 1 1 (bvs [UInt8.ofNat x]) 1 := by
  have : bvs [UInt8.ofNat x] = [Value.int .u8 (x : Nat)] := by simp [bvs]; omega
  rw [this]
  exact src_new w #[Value.int .u8 (x : Nat)] 5 1 1 1 rfl (fun u hu => by simp only [List.mem_singleton] at hu; subst hu; rfl)
def StuffPost (w : World) (l : List UInt8) (e : Ending) (w' : World) : Prop :=
  ∃ v, e = .returned v ∧ w'.ownsRow w.heap.size 5 1 v (Sf.st l).length (bvs (Sf.st l)) ∧ Below w.heap.size w w'
theorem Sf.one_of (l : List UInt8) (k x : Nat) (h : gb l k = x) (hx : x < 256) : l.getD k 0 = UInt8.ofNat x := (Sf.byte_eq l k x hx).1 h
theorem Sf.take_len (l : List UInt8) (k : Nat) : (Sf.st (l.take k)).length ≤ 2 * k := by
  have := (Sf.st_length (l.take k)).2
  have h2 : (l.take k).length ≤ k := by simp; omega
  omega
theorem Sf.gb_of {l : List UInt8} {k x : Nat} (h : l.getD k 0 = UInt8.ofNat x) (hx : x < 256) : gb l k = x := (Sf.byte_eq l k x hx).2 h
theorem cell_again {w : World} {b off len cap : Nat} {l : List UInt8} (h : Bs w (some ⟨b, off, none⟩) len cap l) (k : Nat) (hk : k < len) : w.cell? ⟨b, off + k, none⟩ = some (.int .u8 (gb l k)) := by
  obtain ⟨b', off', e, _, hc⟩ := h.at' k hk
  simp only [Option.some.injEq, Addr.mk.injEq, and_true] at e
  obtain ⟨rfl, rfl⟩ := e
  exact hc
set_option maxHeartbeats 1000000 in
theorem refStuff_any (a : Option Addr) (len cap : Nat) (l : List UInt8) (w : World) (H : Bs w a len cap l) (hl : len ≤ 10000000) :
    Calls Try.prog 33 #[.slice a len cap] w (StuffPost w l) := by
  have HL := Lib.hid H.hlen
  have H0 := Lib.hid H
  clear H
  go_enter Try.func33, Try.ntmps33
  go_wp2
  go_loopw [3, 4] (fun v i wr => ∃ k : Nat, k ≤ len ∧ i = .int .i64 k ∧ Below w.heap.size w wr ∧ Hid (wr.ownsRow w.heap.size 5 1 v (Sf.st (l.take k)).length (bvs (Sf.st (l.take k))))) (fun _ i _ => len - (intOf i).toNat)
  case atStart => exact ⟨0, by omega, rfl, Below.refl _ _, Lib.hid (World.ownsRow_nil _ _ _ _)⟩
  case round =>
    obtain ⟨k, hk, rfl, hb, HO⟩ := hrel
    have hz := hb.size
    by_cases hlt : k < len
    · obtain ⟨b, off, rfl, hbl, hcell⟩ := (H0.out.mono hb).at' k hlt
      have hg := gb_lt l k
      have HT := Lib.hid (Sf.st_take l k (by rw [HL.out]; exact hlt))
      have hgx : ∃ x, gb l k = x := ⟨_, rfl⟩
      obtain ⟨x, hx⟩ := hgx
      have HD := Lib.hid (Sf.one_of l k x hx (by rw [← hx]; exact hg))
      rw [hx] at hcell hg
      clear hx
      have hn := Sf.take_len l k
      obtain ⟨s, hs⟩ : ∃ s, Sf.st (l.take k) = s := ⟨_, rfl⟩
      rw [hs] at HO HT hn
      clear hs
      have hsrc := src_b wr x hg
      have H2 := Lib.hid (HO.out.alloc (.cells #[Value.int .u8 (x : Nat)] 5))
      have hbb : w.heap.size ≤ (wr.alloc (.cells #[Value.int .u8 (x : Nat)] 5)).heap.size := by simp; omega
      go_wp2_with (at_builtin; refine wpl_append tyB rfl _ _ rfl H2.out hsrc rfl rfl (by omega) (by omega) hbb ?_)
      intro v2 w2 own2 hg2 _
      have hb2 : Below w.heap.size w w2 := (hb.alloc hz _).grown hg2 hbb (fun k hk => (H2.out.lt k hk).1)
      have hcell2 := cell_again (H0.out.mono hb2) k hlt
      rw [Sf.gb_of HD.out hg] at hcell2
      rw [← bvs_append] at own2
      have H3 := Lib.hid own2
      clear own2 hg2 hsrc H2 HO hb
      by_cases h255 : x = 255
      · subst h255
        have hsrc := src_b w2 0 (by omega)
        have H4 := Lib.hid (H3.out.alloc (.cells #[Value.int .u8 0] 5))
        have hbb2 : w.heap.size ≤ (w2.alloc (.cells #[Value.int .u8 0] 5)).heap.size := by have := hb2.size; simp; omega
        go_wp2_with (at_builtin; refine wpl_append tyB rfl _ _ rfl H4.out hsrc rfl rfl (by omega) (by omega) hbb2 ?_)
        intro v3 w3 own3 hg3 _
        have hb3 : Below w.heap.size w w3 := (hb2.alloc hb2.size _).grown hg3 hbb2 (fun k hk => (H4.out.lt k hk).1)
        have e : s ++ Sf.one (l.getD k 0) = (s ++ [255]) ++ [0] := by rw [HD.out]; simp [Sf.one]
        rw [← bvs_append, ← e, ← HT.out, show s.length + 1 + 1 = (Sf.st (l.take (k + 1))).length by rw [HT.out, e]; simp] at own3
        have H5 := Lib.hid own3
        clear own3 hg3 hsrc H4 H3 e
        go_wp2
        go_roundw
        case rel => exact ⟨k + 1, by omega, by go_num, hb3, H5⟩
        case measure => simp [intOf]; omega
      · have d255 : ((x : Int) == 255) = false := by simp; omega
        have e : s ++ Sf.one (l.getD k 0) = s ++ [UInt8.ofNat x] := by
          rw [HD.out]; congr 1; unfold Sf.one; rw [if_neg]; intro hh; apply h255; have := congrArg UInt8.toNat hh; simp at this; omega
        have H5 : Hid (w2.ownsRow w.heap.size 5 1 v2 (Sf.st (l.take (k + 1))).length (bvs (Sf.st (l.take (k + 1))))) := Lib.hid (by
          rw [HT.out, e]; have := H3.out; rwa [show s.length + 1 = (s ++ [UInt8.ofNat x]).length by simp] at this)
        clear H3 e
        go_wp2
        go_roundw
        case rel => exact ⟨k + 1, by omega, by go_num, hb2, H5⟩
        case measure => simp [intOf]; omega
    · obtain rfl : len = k := by omega
      go_wp2
      go_ret
      refine ⟨_, rfl, ?_, hb⟩
      have := HO.out
      rwa [List.take_of_length_le (by rw [HL.out]; exact Nat.le_refl _)] at this
set_option maxHeartbeats 1000000 in
theorem stuff_any (a : Option Addr) (len cap : Nat) (l : List UInt8) (w : World) (H : Bs w a len cap l) (hl : len ≤ 10000000) :
    Calls Try.prog 31 #[.slice a len cap] w (StuffPost w l) := by
  have HL := Lib.hid H.hlen
  have H0 := Lib.hid H
  clear H
  go_enter Try.func31, Try.ntmps31
  have hcc := H0.out.hcap
  go_wp2_with (at_make; refine wpl_make tyB rfl _ _ rfl w.heap.size .i64 .i64 _ len rfl rfl (by omega) (by omega) (by omega) (Nat.le_refl _) ?_)
  intro w1 hown1 hg1
  have hb1 : Below w.heap.size w w1 := (Below.refl _ _).grown hg1 (Nat.le_refl _) (by simp)
  have O1 := Lib.hid hown1
  clear hown1 hg1
  go_wp2
  go_loopw [3, 5, 11] (fun v x i wr => ∃ k : Nat, k ≤ len ∧ i = .int .i64 k ∧ Below w.heap.size w wr ∧ Hid (wr.ownsRow w.heap.size 5 1 v (Sf.st (l.take k)).length (bvs (Sf.st (l.take k))))) (fun _ _ i _ => len - (intOf i).toNat)
  case atStart => exact ⟨0, by omega, rfl, hb1, O1⟩
  case round =>
    obtain ⟨k, hk, rfl, hb, HO⟩ := hrel
    have hz := hb.size
    by_cases hlt : k < len
    · obtain ⟨b, off, rfl, hbl, hcell⟩ := (H0.out.mono hb).at' k hlt
      have hg := gb_lt l k
      have HT := Lib.hid (Sf.st_take l k (by rw [HL.out]; exact hlt))
      have hgx : ∃ x, gb l k = x := ⟨_, rfl⟩
      obtain ⟨x, hx⟩ := hgx
      have HD := Lib.hid (Sf.one_of l k x hx (by rw [← hx]; exact hg))
      rw [hx] at hcell hg
      clear hx
      have hn := Sf.take_len l k
      obtain ⟨s, hs⟩ : ∃ s, Sf.st (l.take k) = s := ⟨_, rfl⟩
      rw [hs] at HO HT hn
      clear hs
      have hsrc := src_b wr x hg
      have H2 := Lib.hid (HO.out.alloc (.cells #[Value.int .u8 (x : Nat)] 5))
      have hbb : w.heap.size ≤ (wr.alloc (.cells #[Value.int .u8 (x : Nat)] 5)).heap.size := by simp; omega
      go_wp2_with (at_builtin; refine wpl_append tyB rfl _ _ rfl H2.out hsrc rfl rfl (by omega) (by omega) hbb ?_)
      intro v2 w2 own2 hg2 _
      have hb2 : Below w.heap.size w w2 := (hb.alloc hz _).grown hg2 hbb (fun k hk => (H2.out.lt k hk).1)
      have hcell2 := cell_again (H0.out.mono hb2) k hlt
      rw [Sf.gb_of HD.out hg] at hcell2
      rw [← bvs_append] at own2
      have H3 := Lib.hid own2
      clear own2 hg2 hsrc H2 HO hb
      by_cases h255 : x = 255
      · subst h255
        have hsrc := src_b w2 0 (by omega)
        have H4 := Lib.hid (H3.out.alloc (.cells #[Value.int .u8 0] 5))
        have hbb2 : w.heap.size ≤ (w2.alloc (.cells #[Value.int .u8 0] 5)).heap.size := by have := hb2.size; simp; omega
        go_wp2_with (at_builtin; refine wpl_append tyB rfl _ _ rfl H4.out hsrc rfl rfl (by omega) (by omega) hbb2 ?_)
        intro v3 w3 own3 hg3 _
        have hb3 : Below w.heap.size w w3 := (hb2.alloc hb2.size _).grown hg3 hbb2 (fun k hk => (H4.out.lt k hk).1)
        have e : s ++ Sf.one (l.getD k 0) = (s ++ [255]) ++ [0] := by rw [HD.out]; simp [Sf.one]
        rw [← bvs_append, ← e, ← HT.out, show s.length + 1 + 1 = (Sf.st (l.take (k + 1))).length by rw [HT.out, e]; simp] at own3
        have H5 := Lib.hid own3
        clear own3 hg3 hsrc H4 H3 e
        go_wp2
        go_roundw
        case rel => exact ⟨k + 1, by omega, by go_num, hb3, H5⟩
        case measure => simp [intOf]; omega
      · have d255 : ((x : Int) == 255) = false := by simp; omega
        have e : s ++ Sf.one (l.getD k 0) = s ++ [UInt8.ofNat x] := by
          rw [HD.out]; congr 1; unfold Sf.one; rw [if_neg]; intro hh; apply h255; have := congrArg UInt8.toNat hh; simp at this; omega
        have H5 : Hid (w2.ownsRow w.heap.size 5 1 v2 (Sf.st (l.take (k + 1))).length (bvs (Sf.st (l.take (k + 1))))) := Lib.hid (by
          rw [HT.out, e]; have := H3.out; rwa [show s.length + 1 = (s ++ [UInt8.ofNat x]).length by simp] at this)
        clear H3 e
        go_wp2
        go_roundw
        case rel => exact ⟨k + 1, by omega, by go_num, hb2, H5⟩
        case measure => simp [intOf]; omega
    · obtain rfl : len = k := by omega
      go_wp2
      go_ret
      refine ⟨_, rfl, ?_, hb⟩
      have := HO.out
      rwa [List.take_of_length_le (by rw [HL.out]; exact Nat.le_refl _)] at this
end Go.Proofs.Ytpeldamcbkfamaa
