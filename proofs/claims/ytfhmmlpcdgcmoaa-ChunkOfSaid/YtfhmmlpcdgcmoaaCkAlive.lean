/- layer 12's alive: its contract. -/
import Derived.Test.YtfhmmlpcdgcmoaaCkParse
import Derived.Test.YtfhmmlpcdgcmoaaCkWr
import Derived.Test.YtfhmmlpcdgcmoaaDrewN
import Derived.Deep.QuietTactic
import Derived.BigQuiet
namespace Go.Proofs.Ytfhmmlpcdgcmoaa
open Go.RowKit

theorem cps_take_succ (l : List Ckm) (k : Nat) (h : k < l.length) : (cps l).take (k + 1) = (cps l).take k ++ [(nck l k).c] := by
  rw [Ck.take_succ _ k (by rw [cps_length]; exact h), cps_nth l k h]
/-- The chapter's example. -/
def ckEx : List Ck.C := [(Ck.iend, [])]
theorem ckEx_good : Ck.good ckEx = true := by decide
theorem ckEx_wr : Ck.wr ckEx = [137, 80, 78, 71, 13, 10, 26, 10, 0, 0, 0, 0, 73, 69, 78, 68, 174, 66, 96, 130] := by decide +kernel
theorem ckEx_parse : Ck.parse [137, 80, 78, 71, 13, 10, 26, 10, 0, 0, 0, 0, 73, 69, 78, 68, 174, 66, 96, 130] = (0, ckEx) := by decide +kernel
set_option maxRecDepth 100000 in
set_option maxHeartbeats 4000000 in
theorem alive12_any (w : World) : Calls Try.prog 27 #[] w fun e w' => e = .returned (.bool true) ∧ Below w.heap.size w w' := by
  have h1 := below_alloc w (.cells #[.string { data := #[73, 69, 78, 68] }, .slice none 0 0] 52)
  have hcs : Cs (w.alloc (.cells #[.string { data := #[73, 69, 78, 68] }, .slice none 0 0] 52)) (some ⟨w.heap.size, 0, none⟩) 1 1 [⟨Ck.iend, ⟨none, 0, 0, []⟩⟩] := by
    refine ⟨rfl, Nat.le_refl _, fun h => by simp at h, fun i hi => ⟨w.heap.size, 0, rfl, by simp, ?_⟩⟩
    obtain rfl : i = 0 := by omega
    exact ⟨(cell_of_row _ _ 0 _ _ (0, 0) (heap_alloc_last w _)).trans rfl, (cell_of_row _ _ 1 _ _ (0, 0) (heap_alloc_last w _)).trans rfl, bs_nil _⟩
  have hwr := write_any _ 1 1 _ _ hcs (by omega) (fun c hc => by
    obtain rfl : c = ⟨Ck.iend, ⟨none, 0, 0, []⟩⟩ := by simpa using hc
    simp [Ck.iend])
  have hce : cps [⟨Ck.iend, ⟨none, 0, 0, []⟩⟩] = ckEx := rfl
  rw [hce] at hwr
  have HW := Lib.hid hwr
  have HB := Lib.hid h1
  clear h1 hcs hwr hce
  go_enter Try.func27, Try.ntmps27
  go_wp2_with fail
  refine HW.out.mono ?_
  rintro e w2 hp
  unfold WrPost at hp
  rw [if_pos ckEx_good, if_pos (by decide)] at hp
  obtain ⟨v, rfl, ho, hb⟩ := hp
  rw [ckEx_wr] at ho
  have HB2 := Lib.hid (below_then HB.out hb)
  obtain ⟨a, c, rfl, hbs⟩ := own_bs ho (by decide)
  have hbs : Bs w2 a 20 c [137, 80, 78, 71, 13, 10, 26, 10, 0, 0, 0, 0, 73, 69, 78, 68, 174, 66, 96, 130] := hbs
  have hcm := own_nil_or ho
  obtain ⟨b0, o0, rfl, hb0, hx⟩ := hbs.at' 19 (by omega)
  have hx : w2.cell? ⟨b0, o0 + 19, none⟩ = some (.int .u8 130) := hx
  have hsz : (8 + Ck.size ckEx) = 20 := by decide
  rw [hsz] at hcm ⊢
  have hl8 : 20 ≤ c := hbs.hle
  have HBS := Lib.hid hbs
  clear ho hb hbs hcm
  go_wp2_with fail
  refine (signed_any _ _ _ _ _ HBS.out).mono ?_
  rintro e w3 ⟨rfl, hb3⟩
  rw [show (List.take 8 ([137, 80, 78, 71, 13, 10, 26, 10, 0, 0, 0, 0, 73, 69, 78, 68, 174, 66, 96, 130] : List UInt8) == Ck.sign) = true by decide]
  have HBS3 := Lib.hid (HBS.out.mono hb3)
  have HB3 := Lib.hid (below_then HB2.out hb3)
  clear hb3 HBS HB2 hx hb0
  go_wp2_with fail
  refine (parse_any _ _ _ _ _ HBS3.out).mono ?_
  rintro e w4 ⟨hb4, hok, _⟩
  obtain ⟨v, ms, rfl, hls, hcp⟩ := hok (by rw [ckEx_parse])
  rw [ckEx_parse] at hcp
  have hb4 := below_then HB3.out hb4
  have hml : ms.length = 1 := by have := congrArg List.length hcp; rwa [cps_length] at this
  obtain ⟨a5, c5, rfl, hcs⟩ := hls.cs
  rw [hml] at hcs ⊢
  obtain ⟨b5, o5, rfl, _, x5, _⟩ := hcs.at' 0 (by omega)
  have hn5 : (nck ms 0).n = Ck.iend := by
    have := cps_nth ms 0 (by omega)
    rw [hcp] at this
    exact (Prod.mk.inj this).1.symm
  rw [hn5, Nat.zero_mul, Nat.add_zero] at x5
  have hie : ((str Ck.iend).toList == ([73, 69, 78, 68] : List UInt8)) = true := by rw [str_list]; rfl
  have HB4 := Lib.hid hb4
  have h5 := hcs.hle
  clear hls hcp hb4 hcs hn5 hml HBS3 HB3
  go_wp2
  go_ret
  exact ⟨rfl, HB4.out⟩
end Go.Proofs.Ytfhmmlpcdgcmoaa
