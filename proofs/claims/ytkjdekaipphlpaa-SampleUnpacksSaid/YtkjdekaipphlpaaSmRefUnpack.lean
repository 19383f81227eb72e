/- The document's Unpack: its contract. -/
import Derived.Test.YtkjdekaipphlpaaSmSmall
import Derived.Test.YtkjdekaipphlpaaRefBits
import Derived.Test.YtkjdekaipphlpaaRef03b
namespace Go.Proofs.Ytkjdekaipphlpaa
open Go.RowKit

namespace Sm
/-- So many bits as whole bytes hold. -/
def need (z : Nat) : Nat := z + mis z
def UnOk (d n : Int) (len : Nat) : Prop := deep d = true ∧ 0 ≤ n ∧ n ≤ 1048576 ∧ (len : Int) = (n * d + 7) / 8
theorem refUnpack_out (a : Option Addr) (len cap : Nat) (d n : Int) (w : World) (h : deep d = false ∨ n < 0 ∨ 1048576 < n) :
    Calls Try.prog 17 #[.slice a len cap, .int .i64 d, .int .i64 n] w fun e w' => e = .returned (.tuple #[.slice none 0 0, .bool false]) ∧ w = w' := by
  have HG := Lib.hid (fun w => deep_any d w)
  by_cases hd : deep d = true
  rotate_left
  · have hd : deep d = false := by simpa using hd
    rw [hd] at HG
    clear h
    go_enter Try.func17, Try.ntmps17
    go_wp2_with fail
    refine (HG.out _).mono ?_
    rintro e w' ⟨rfl, rfl⟩
    go_wp2
    go_ret2
    exact ⟨rfl, rfl⟩
  rw [hd] at HG h
  by_cases h0 : n < 0
  · have d0 : decide (n < 0) = true := by simpa using h0
    clear h h0
    go_enter Try.func17, Try.ntmps17
    go_wp2_with fail
    refine (HG.out _).mono ?_
    rintro e w' ⟨rfl, rfl⟩
    go_wp2
    go_ret2
    exact ⟨rfl, rfl⟩
  · have d0 : decide (n < 0) = false := by simpa using h0
    have d1 : decide (1048576 < n) = true := by
      rcases h with h | h | h
      · simp at h
      · exact absurd h h0
      · simpa using h
    clear h h0
    go_enter Try.func17, Try.ntmps17
    go_wp2_with fail
    refine (HG.out _).mono ?_
    rintro e w' ⟨rfl, rfl⟩
    go_wp2
    go_ret2
    exact ⟨rfl, rfl⟩
def RuPost (w : World) (D N : Nat) (l : List UInt8) (e : Ending) (w' : World) : Prop :=
  (l.length = (N * D + 7) / 8 ∧ ∃ v, e = .returned (.tuple #[v, .bool true]) ∧ w'.ownsRow w.heap.size 3 1 v N (ivs (vals D (Bt.rbits true l) N)) ∧ Below w.heap.size w w') ∨
  (l.length ≠ (N * D + 7) / 8 ∧ e = .returned (.tuple #[.slice none 0 0, .bool false]) ∧ Below w.heap.size w w')
set_option maxRecDepth 100000 in
set_option maxHeartbeats 2000000 in
theorem refUnpack_any (a : Option Addr) (len cap : Nat) (l : List UInt8) (D N : Nat) (w : World) (hD : Dp D) (hN : N ≤ 1048576) (h : Bs w a len cap l) (hlen : len ≤ 500) :
    Calls Try.prog 17 #[.slice a len cap, .int .i64 D, .int .i64 N] w (RuPost w D N l) := by
  have HG := Lib.hid (fun w => deep_any D w)
  rw [dp_deep hD] at HG
  have hD16 := dp_le hD
  have d0 : decide ((N : Int) < 0) = false := by simp
  have d1 : decide ((1048576 : Int) < (N : Int)) = false := by simp; omega
  have HL := Lib.hid h.hlen
  have H := Lib.hid h
  have hz : N * D ≤ 1048576 * 16 := Nat.mul_le_mul (by omega) (by omega)
  have ez : (N : Int) * (D : Int) = ((N * D : Nat) : Int) := by simp
  obtain ⟨z, hzz⟩ : ∃ z, N * D = z := ⟨_, rfl⟩
  have HZ := Lib.hid hzz
  rw [hzz] at hz ez
  have e1 : wrap64 ((N : Int) * (D : Int)) = (z : Int) := by rw [ez]; exact IntWalk.wrap64_in _ ⟨by omega, by omega⟩
  clear h hzz ez
  go_enter Try.func17, Try.ntmps17
  go_wp2_with fail
  refine (HG.out _).mono ?_
  rintro e w' ⟨rfl, rfl⟩
  go_wp2
  rw [e1]
  have hm : mis z = (8 - z % 8) % 8 := rfl
  obtain ⟨y, hy⟩ : ∃ y, z + mis z = y := ⟨_, rfl⟩
  have hy8 : y % 8 = 0 ∧ z ≤ y ∧ y < z + 8 ∧ y / 8 = (z + 7) / 8 := by omega
  have HY := Lib.hid hy8
  have hyb : y ≤ 20000000 := by omega
  have hzy : z ≤ y := hy8.2.1
  clear hm hy
  go_loop [8] (fun x => ∃ k : Nat, z ≤ k ∧ k ≤ y ∧ x = .int .i64 k) (fun x => y - (intOf x).toNat)
  case atStart => exact ⟨z, by omega, by omega, rfl⟩
  case round =>
    obtain ⟨k, hk, hky, rfl⟩ := hrel
    by_cases hlt : k < y
    · have dk : (((k : Int) % 8) != 0) = true := by simp; omega
      clear hy8
      go_wp2
      go_round
      case rel => exact ⟨k + 1, by omega, by omega, by go_num⟩
      case measure => simp [intOf]; omega
    · obtain rfl : y = k := by omega
      have dk : (((y : Int) % 8) != 0) = false := by simp; omega
      by_cases hne : 8 * len = y
      rotate_left
      · have dne : ((8 * (len : Int)) != (y : Int)) = true := by simp; omega
        have HNE := Lib.hid (show l.length ≠ (N * D + 7) / 8 by rw [HL.out, HZ.out]; omega)
        clear hy8 hne
        go_wp2
        go_ret2
        exact .inr ⟨HNE.out, rfl, Below.refl _ _⟩
      · have HNE := Lib.hid (show l.length = (N * D + 7) / 8 by rw [HL.out, HZ.out]; omega)
        have dne : ((8 * (len : Int)) != (y : Int)) = false := by simp; omega
        have hz8 : z ≤ 8 * len := by omega
        have HIN := Lib.hid (show ∀ k, k < N → k * D + D ≤ z from fun k hk => by
          have := Nat.mul_le_mul_right D (show k + 1 ≤ N from hk)
          rw [Nat.add_mul, HZ.out] at this; omega)
        clear hy8 hne
        go_wp2_with fail
        refine (refBits_any true a len cap l _ H.out (by omega)).mono ?_
        rintro e w2 ⟨v, rfl, own2, hb2⟩
        have HO2 := Lib.hid own2
        have HB2 := Lib.hid hb2
        have hz2 := hb2.size
        have HVF : Hid (∀ k, k < N → 1 ≤ 8 * l.length) := Lib.hid (fun k hk => by have := HIN.out k hk; rw [HL.out]; omega)
        clear own2 hb2 dne dk hlt hk hky e1
        go_wp2
        go_loopw [10, 11] (fun u i wr => ∃ k : Nat, k ≤ N ∧ i = .int .i64 k ∧ Hid (wr.ownsRow w2.heap.size 3 1 u k (ivs (vals D (Bt.rbits true l) k)) ∧ Below w2.heap.size w2 wr)) (fun _ i _ => N - (intOf i).toNat)
        case atStart => exact ⟨0, by omega, rfl, Lib.hid ⟨World.ownsRow_nil _ _ _ _, Below.refl _ _⟩⟩
        case round =>
          obtain ⟨k, hk, rfl, HK⟩ := hrel
          have hrs := HK.out.2.size
          by_cases hlt : k < N
          · have hin := HIN.out k hlt
            have h1 := HVF.out k hlt
            rcases own_nil_or HO2.out with ⟨_, hx⟩ | ⟨g, cap2, rfl, hle, hbg, hgl, _⟩
            · omega
            have HIS := Lib.hid (is_of_own (own_below HO2.out HK.out.2) (bi_wf _) (k * D) D (cap2 - k * D) (by rw [HL.out]; omega) (by rw [HL.out] at hle; omega))
            have HPD : Hid ((((bi (Bt.rbits true l)).drop (k * D)).take D) = bi (((Bt.rbits true l).drop (k * D)).take D)) := Lib.hid (by simp [bi, List.map_drop, List.map_take])
            have HSU := Lib.hid (vals_succ D (Bt.rbits true l) k)
            have HNB : Hid (Bt.num true (((Bt.rbits true l).drop (k * D)).take D) < 4294967296) := Lib.hid (by
              have h1 := Bt.num_lt true (((Bt.rbits true l).drop (k * D)).take D)
              have h2 := Bt.pow_le (((Bt.rbits true l).drop (k * D)).take D).length 32 (by rw [List.length_take]; omega)
              omega)
            rw [HPD.out] at HIS
            have hle2 : 8 * len ≤ cap2 := by rw [HL.out] at hle; exact hle
            have HNA : Hid (∀ off y z, off = k * D → y = D → z = cap2 - k * D → Calls Try.prog 37 #[.slice (some ⟨g, off, none⟩) y z, .bool true] wr fun e w' => e = .returned (.int .i64 (Bt.num true (((Bt.rbits true l).drop (k * D)).take D) : Nat)) ∧ wr = w') := Lib.hid (fun off y z h1 h2 h3 => by
              rw [h1, h2, h3]
              exact number_any true _ D _ _ _ HIS.out (by omega))
            clear hle HIS HPD
            generalize Bt.num true (((Bt.rbits true l).drop (k * D)).take D) = x at *
            have hnb := HNB.out
            have hsrc : SrcRow (wr.alloc (.cells #[Value.int .i64 (x : Nat)] 3)) (some ⟨wr.heap.size, 0, none⟩) 1 1 (ivs [(x : Int)]) 1 := src_int wr _
            have H2 := Lib.hid (HK.out.1.alloc (.cells #[Value.int .i64 (x : Nat)] 3))
            have hbb : w2.heap.size ≤ (wr.alloc (.cells #[Value.int .i64 (x : Nat)] 3)).heap.size := by simp; omega
            rcases hD with rfl | rfl | rfl | rfl | rfl
            all_goals
              simp only [Int.natCast_one, Int.cast_ofNat_Int]
              go_wp2_with fail
              refine (HNA.out _ _ _ (by omega) (by omega) (by omega)).mono ?_
              rintro e w' ⟨rfl, rfl⟩
              go_wp2_with (at_builtin; refine wpl_append tyI rfl _ _ rfl H2.out hsrc rfl rfl (by omega) (by omega) hbb ?_)
              intro v2 w3 own3 hg3 _
              have hb3 : Below w2.heap.size w2 w3 := (HK.out.2.alloc hrs _).grown hg3 hbb (fun j hj => (H2.out.lt j hj).1)
              rw [← ivs_append, ← HSU.out] at own3
              have H3 := Lib.hid (And.intro own3 hb3)
              clear own3 hg3 hb3 hsrc H2 hbb HNA HSU
              go_wp2
              go_roundw
              case rel => exact ⟨k + 1, by omega, by go_num, H3⟩
              case measure => simp [intOf]; omega
          · obtain rfl : N = k := by omega
            go_wp2
            go_ret2
            exact .inl ⟨HNE.out, _, rfl, own_base HK.out.1 (fun j hj => by have := (HK.out.1.lt j hj).1; omega), HB2.out.trans (HK.out.2.mono hz2)⟩
end Sm
end Go.Proofs.Ytkjdekaipphlpaa
