/-  -/
import Derived.Test.YtbgaaocgdjkkeaaZ29
set_option linter.unusedSimpArgs false
set_option linter.unusedVariables false
section
namespace Go.Proofs.Ytbgaaocgdjkkeaa
open Go.RowKit

theorem crc_any (a : Option Addr) (len cap : Nat) (ps : List Sl) (w : World) (h : Parts w a len cap ps) :
    Calls Try.prog 81 #[.slice a len cap] w fun e w' => e = .returned (.int .i64 (Crc.crc (flat ps))) ∧ Below w.heap.size w w' := by
  have hc := h.hcap
  have hle := h.hle
  go_enter Try.func81, Try.ntmps81
  go_wp2_with fail
  refine (afterFour_any w).mono ?_
  rintro e w1 ⟨rfl, hb1⟩
  have hst := run_storeCells_new (P := Try.prog) w1 123 #[Value.int IntKind.u32 0, Value.int IntKind.u32 0, Value.int IntKind.u32 0, Value.int IntKind.u32 0,
          Value.int IntKind.u32 0, Value.int IntKind.u32 0, Value.int IntKind.u32 0, Value.int IntKind.u32 0,
          Value.int IntKind.u32 0, Value.int IntKind.u32 0, Value.int IntKind.u32 0, Value.int IntKind.u32 0,
          Value.int IntKind.u32 0, Value.int IntKind.u32 0, Value.int IntKind.u32 0, Value.int IntKind.u32 0] (Crc.tab 16) (by rw [Crc.tab_size]; kernel_rfl) (by rw [Crc.tab_size]; rfl) (Crc.tab_one 16)
  go_wp2
  have hbA : Below w.heap.size w (w1.alloc (.cells (Crc.tab 16) 123)) := hb1.alloc hb1.size _
  have hrow : (w1.alloc (.cells (Crc.tab 16) 123)).heap[w1.heap.size]? = some (.cells (Crc.tab 16) 123) := heap_alloc_last _ _
  have H := Lib.hid (h.mono hbA)
  have HT : Hid (∀ i, i < 16 → (w1.alloc (.cells (Crc.tab 16) 123)).cell? ⟨w1.heap.size, i, none⟩ = some (.int .u32 (Crc.stN 4 i))) := fun i hi => by
    rw [cell_of_row _ _ i _ _ _ hrow]; exact Crc.tab_get i 16 hi hi
  have hlen := h.hlen
  clear hrow hst hb1 h
  revert H HT hbA
  generalize w1.alloc (.cells (Crc.tab 16) 123) = wA
  generalize w1.heap.size = tb
  intro hbA H HT
  go_loop [4, 12] (fun r i => ∃ k : Nat, k ≤ len ∧ i = .int .i64 k ∧ r = .int .u32 (Crc.run (flat (ps.take k)))) (fun _ i => len - (intOf i).toNat)
  case atStart => exact ⟨0, by omega, rfl, rfl⟩
  case round =>
    obtain ⟨k, hk, rfl, rfl⟩ := hrel
    by_cases hlt : k < len
    · obtain ⟨b, off, rfl, hb, hcell, hs⟩ := H.out.at' k hlt
      have hsc := hs.hcap
      have hsl := hs.hle
      have hsn := hs.hlen
      have HS := Lib.hid hs
      clear hs
      generalize hp : nth ps k = p at *
      obtain ⟨pa, plen, pcap, pl⟩ := p
      have HP := Lib.hid hp
      clear hp
      simp only at hsc hsl hsn hcell
      go_wp2
      go_loop [4, 18] (fun r i => ∃ m : Nat, m ≤ plen ∧ i = .int .i64 m ∧ r = .int .u32 (Crc.run (flat (ps.take k) ++ pl.take m))) (fun _ i => plen - (intOf i).toNat)
      case atStart => exact ⟨0, by omega, rfl, by simp⟩
      case round =>
        obtain ⟨m, hm, rfl, rfl⟩ := hrel
        have hr := Crc.run_lt (flat (ps.take k) ++ pl.take m)
        by_cases hlm : m < plen
        · obtain ⟨pb, poff, epa, hpb, hpc⟩ := HS.out.at' m hlm
          simp only at epa
          subst epa
          have hg := gb_lt pl m
          have hx : Crc.run (flat (ps.take k) ++ pl.take m) ^^^ gb pl m < 4294967296 := Nat.xor_lt_two_pow (n := 32) (by omega) (by omega)
          have hxe : bits .xor .u32 (Crc.run (flat (ps.take k) ++ pl.take m) : Int) (gb pl m) = ((Crc.run (flat (ps.take k) ++ pl.take m) ^^^ gb pl m : Nat) : Int) := u32_xor_nat _ _ hr (by omega)
          go_wp2
          clear hxe
          generalize hX : Crc.run (flat (ps.take k) ++ pl.take m) ^^^ gb pl m = X at *
          have HX := Lib.hid hX
          clear hX
          go_loop [4, 26] (fun r j => ∃ n : Nat, n ≤ 2 ∧ j = .int .i64 n ∧ r = .int .u32 (Crc.stN (4 * n) X)) (fun _ j => 2 - (intOf j).toNat)
          case atStart => exact ⟨0, by omega, rfl, rfl⟩
          case round =>
            obtain ⟨n, hn, rfl, rfl⟩ := hrel
            have hS := Crc.stN_lt hx (4 * n)
            by_cases hln : n < 2
            · have h16 : Crc.stN (4 * n) X % 16 < 16 := Nat.mod_lt _ (by omega)
              have hnext : Crc.stN 4 (Crc.stN (4 * n) X) = Crc.stN (4 * (n + 1)) X := by rw [← Crc.stN_add]; rfl
              have HN := Lib.hid hnext
              clear hnext
              have hT := HT.out _ h16
              have h15 := Crc.and15 hS
              generalize Crc.stN (4 * n) X = S at *
              go_wp2
              go_round
              case rel => exact ⟨n + 1, by omega, by go_num, by rw [← HN.out, ← Crc.four_bits hS]⟩
              case measure => simp [intOf]; omega
            · obtain rfl : n = 2 := by omega
              go_wp2
              go_round
              case rel => exact ⟨m + 1, by omega, by go_num, by rw [Crc.run_append _ _ _ (by omega), Crc.byte, ← HX.out]⟩
              case measure => simp [intOf]; omega
        · have HF := Lib.hid (show pl.take m = pl from List.take_of_length_le (by omega))
          go_wp2
          go_round
          case rel => exact ⟨k + 1, by omega, by go_num, by rw [flat_snoc ps k (by omega), HP.out, HF.out]⟩
          case measure => simp [intOf]; omega
    · have hr := Crc.run_lt (flat (ps.take k))
      have hsg : (IntKind.u32.signed = true) = False := by decide
      go_wp2
      go_ret
      obtain rfl : k = len := by omega
      have hfull : ps.take k = ps := List.take_of_length_le (by omega)
      rw [hfull]
      exact ⟨ret_int (Crc.not_bits (Crc.run_lt (flat ps))), hbA⟩
theorem crc_of (v : Int) (a : Option Addr) (len cap : Nat) (ps : List Sl) (w : World) (h : Parts w a len cap ps) (hv : (Crc.crc (flat ps) : Int) = v) :
    Calls Try.prog 81 #[.slice a len cap] w fun e w' => e = .returned (.int .i64 v) ∧ Below w.heap.size w w' := by
  subst hv
  exact crc_any a len cap ps w h
end Go.Proofs.Ytbgaaocgdjkkeaa
end
