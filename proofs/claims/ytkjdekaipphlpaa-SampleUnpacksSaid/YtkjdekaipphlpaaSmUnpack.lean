/- sample.Unpack: its contract. -/
import Derived.Test.YtkjdekaipphlpaaSmSmall
import Derived.Test.YtkjdekaipphlpaaBitsNewR
import Derived.Test.YtkjdekaipphlpaaBitsTake
import Derived.Test.YtkjdekaipphlpaaIntsGet
import Derived.Test.YtkjdekaipphlpaaMade
import Derived.Test.YtkjdekaipphlpaaOwnSlot
namespace Go.Proofs.Ytkjdekaipphlpaa
open Go.RowKit

namespace Sm
theorem unpack_bad (a : Option Addr) (len cap : Nat) (d n : Int) (w : World) (hlen : len ≤ 140737488355328) (h : deep d = false ∨ n < 0 ∨ 1048576 < n ∨ (len : Int) ≠ (n * d + 7) / 8) :
    Calls Try.prog 14 #[.slice a len cap, .int .i64 d, .int .i64 n] w fun e w' => e = .returned (.tuple #[.slice none 0 0, .iface 41 (.int .i64 6)]) ∧ w = w' := by
  have HG := Lib.hid (fun w => goodDepth_any d w)
  by_cases hd : deep d = true
  rotate_left
  · have hd : deep d = false := by simpa using hd
    rw [hd] at HG
    clear h
    go_enter Try.func14, Try.ntmps14
    go_wp2_with fail
    refine (HG.out _).mono ?_
    rintro e w' ⟨rfl, rfl⟩
    go_wp2
    go_ret2
    exact ⟨rfl, rfl⟩
  rw [hd] at HG
  obtain ⟨D, rfl, hD⟩ := deep_dp hd
  have hD16 := dp_le hD
  by_cases h0 : n < 0
  · have d0 : decide (n < 0) = true := by simpa using h0
    clear h h0
    go_enter Try.func14, Try.ntmps14
    go_wp2_with fail
    refine (HG.out _).mono ?_
    rintro e w' ⟨rfl, rfl⟩
    go_wp2
    go_ret2
    exact ⟨rfl, rfl⟩
  have d0 : decide (n < 0) = false := by simpa using h0
  by_cases h1 : 1048576 < n
  · have d1 : decide (1048576 < n) = true := by simpa using h1
    clear h h0 h1
    go_enter Try.func14, Try.ntmps14
    go_wp2_with fail
    refine (HG.out _).mono ?_
    rintro e w' ⟨rfl, rfl⟩
    go_wp2
    go_ret2
    exact ⟨rfl, rfl⟩
  have d1 : decide (1048576 < n) = false := by simpa using h1
  obtain ⟨N, rfl⟩ := Int.eq_ofNat_of_zero_le (show 0 ≤ n by omega)
  have hz : N * D ≤ 1048576 * 16 := Nat.mul_le_mul (by omega) (by omega)
  have ez : (N : Int) * (D : Int) = ((N * D : Nat) : Int) := by simp
  have hl : len ≠ (N * D + 7) / 8 := by
    rcases h with h | h | h | h
    · rw [hd] at h; simp at h
    · omega
    · omega
    · rw [ez] at h; omega
  clear h h0 h1 hd
  generalize N * D = z at *
  have HM := Lib.hid (missing_sm z w (by omega))
  have hm : mis z = (8 - z % 8) % 8 := rfl
  generalize mis z = mz at *
  have hml : mz < 8 := by omega
  have he : (z + mz) / 8 = (z + 7) / 8 := by omega
  have e4 : wrap64 (((z + mz : Nat) : Int) / 8) = ((z + mz : Nat) : Int) / 8 := IntWalk.wrap64_in _ ⟨by omega, by omega⟩
  have e3 : ((len : Int) != wrap64 (((z + mz : Nat) : Int) / 8)) = true := by
    rw [e4]
    simp only [bne_iff_ne, ne_eq]
    omega
  clear e4
  have hy : z + mz ≤ 1000000000 := by omega
  have e0 : (z : Int) + (mz : Int) = ((z + mz : Nat) : Int) := by simp
  clear hm hml he hl
  generalize z + mz = y at *
  have e1 : wrap64 ((N : Int) * (D : Int)) = (z : Int) := by rw [ez]; exact IntWalk.wrap64_in _ ⟨by omega, by omega⟩
  have e2 : wrap64 ((z : Int) + (mz : Int)) = (y : Int) := by rw [e0]; exact IntWalk.wrap64_in _ ⟨by omega, by omega⟩
  clear ez hD e0 hy
  go_enter Try.func14, Try.ntmps14
  go_wp2_with fail
  refine (HG.out _).mono ?_
  rintro e w' ⟨rfl, rfl⟩
  go_wp2_with fail
  refine HM.out.mono ?_
  rintro e w' ⟨rfl, rfl⟩
  rw [e1]
  go_wp2
  go_ret2
  exact ⟨rfl, rfl⟩
def UnPost (w : World) (D N : Nat) (l : List UInt8) (e : Ending) (w' : World) : Prop :=
  ∃ v, e = .returned (.tuple #[v, .nilIface]) ∧ w'.ownsRow w.heap.size 3 1 v N (ivs (vals D (Bt.rbits true l) N)) ∧ Below w.heap.size w w'
set_option maxRecDepth 100000 in
set_option maxHeartbeats 2000000 in
theorem unpack_good (a : Option Addr) (len cap : Nat) (l : List UInt8) (D N : Nat) (w : World) (hD : Dp D) (hN : N ≤ 1048576) (h : Bs w a len cap l) (hl : len = (N * D + 7) / 8) :
    Calls Try.prog 14 #[.slice a len cap, .int .i64 D, .int .i64 N] w (UnPost w D N l) := by
  have HG := Lib.hid (fun w => goodDepth_any D w)
  rw [dp_deep hD] at HG
  have hD16 := dp_le hD
  have d0 : decide ((N : Int) < 0) = false := by simp
  have d1 : decide ((1048576 : Int) < (N : Int)) = false := by simp; omega
  have HL := Lib.hid h.hlen
  have H := Lib.hid h
  have hz : N * D ≤ 1048576 * 16 := Nat.mul_le_mul (by omega) (by omega)
  have ez : (N : Int) * (D : Int) = ((N * D : Nat) : Int) := by simp
  have HIN := Lib.hid (show ∀ k, k < N → k * D + D ≤ N * D from fun k hk => by
    have := Nat.mul_le_mul_right D (show k + 1 ≤ N from hk)
    rw [Nat.add_mul] at this; omega)
  clear h hD
  generalize N * D = z at *
  have HM := Lib.hid (missing_sm z w (by omega))
  have hm : mis z = (8 - z % 8) % 8 := rfl
  generalize mis z = mz at *
  have hml : mz < 8 := by omega
  have he : (z + mz) / 8 = (z + 7) / 8 := by omega
  have e4 : wrap64 (((z + mz : Nat) : Int) / 8) = ((z + mz : Nat) : Int) / 8 := IntWalk.wrap64_in _ ⟨by omega, by omega⟩
  have e3 : ((len : Int) != wrap64 (((z + mz : Nat) : Int) / 8)) = false := by
    rw [e4]
    simp only [bne_eq_false_iff_eq]
    omega
  clear e4
  have hy : z + mz ≤ 1000000000 := by omega
  have e0 : (z : Int) + (mz : Int) = ((z + mz : Nat) : Int) := by simp
  have hlz : z ≤ 8 * len := by omega
  have hlen : len ≤ 3000000 := by omega
  clear hm hml he hl
  generalize z + mz = y at *
  have e1 : wrap64 ((N : Int) * (D : Int)) = (z : Int) := by rw [ez]; exact IntWalk.wrap64_in _ ⟨by omega, by omega⟩
  have e2 : wrap64 ((z : Int) + (mz : Int)) = (y : Int) := by rw [e0]; exact IntWalk.wrap64_in _ ⟨by omega, by omega⟩
  clear ez e0 hy hz
  go_enter Try.func14, Try.ntmps14
  go_wp2_with fail
  refine (HG.out _).mono ?_
  rintro e w' ⟨rfl, rfl⟩
  go_wp2_with fail
  refine HM.out.mono ?_
  rintro e w' ⟨rfl, rfl⟩
  rw [e1]
  go_wp2_with fail
  refine (newReader_any true a len cap l _ H.out (by omega)).mono ?_
  rintro e w1 ⟨g, v, rfl, rd, hb1⟩
  have RD := Lib.hid rd
  have HB1 := Lib.hid hb1
  have hz1 := hb1.size
  clear rd hb1 e1 e2 e3 d0 d1
  go_wp2_with (at_make; refine wpl_make_full tyI rfl _ _ rfl w.heap.size .i64 .i64 _ _ N rfl rfl (by omega) (by omega) (by omega) (by omega) (by omega) ?_)
  intro w2 own2 hg2
  have hb2 : Below w1.heap.size w1 w2 := (Below.refl _ _).grown hg2 (Nat.le_refl _) (by simp)
  obtain ⟨B, hB⟩ : ∃ B, w1.heap.size = B := ⟨_, rfl⟩
  have HGB : Hid (g < B ∧ (∀ k, v.ownBlock = some k → k ≠ B) ∧ w.heap.size ≤ B ∧ w.heap.size ≤ g) := Lib.hid
    ⟨by rw [← hB]; exact RD.out.lt, fun k hk e => by have := (RD.out.own.lt k hk).2; omega, by omega, RD.out.hg⟩
  have HST : Hid (Rd w2 w.heap.size g true v l (0 * D) ∧ w2.ownsRow w.heap.size 3 1 (.slice (some ⟨B, 0, none⟩) N N) N (ivs (vals D (Bt.rbits true l) 0 ++ List.replicate (N - 0) 0)) ∧ Below w.heap.size w w2) := Lib.hid
    ⟨by rw [Nat.zero_mul]; exact RD.out.mono hb2, by
      have e := made_ints1 N
      rw [Nat.mul_one] at e
      rw [← hB]
      show w2.ownsRow w.heap.size 3 1 (.slice (some ⟨w1.heap.size, 0, none⟩) N N) N (ivs (List.replicate N 0))
      rw [← e]; exact own2, below_then HB1.out hb2⟩
  rw [hB]
  have HR : Hid (Bt.rbits true l = Bt.rbits true l) := Lib.hid rfl
  clear own2 hg2 hb2 hB RD HB1 hz1 HR
  go_wp2
  go_loopw [44] (fun i wr => ∃ k : Nat, k ≤ N ∧ i = .int .i64 k ∧ Hid (Rd wr w.heap.size g true v l (k * D) ∧ wr.ownsRow w.heap.size 3 1 (.slice (some ⟨B, 0, none⟩) N N) N (ivs (vals D (Bt.rbits true l) k ++ List.replicate (N - k) 0)) ∧ Below w.heap.size w wr)) (fun i _ => N - (intOf i).toNat)
  case atStart => exact ⟨0, by omega, rfl, HST⟩
  case round =>
    obtain ⟨k, hk, rfl, HK⟩ := hrel
    by_cases hlt : k < N
    · have hin := HIN.out k hlt
      have HVS := Lib.hid (vals_set D (Bt.rbits true l) N k hlt)
      have HKD := Lib.hid (show k * D + D = (k + 1) * D by rw [Nat.add_mul]; omega)
      go_wp2_with fail
      refine (takeR_ok _ w.heap.size g true v l (k * D) D HK.out.1 HK.out.2.2.size (by rw [HL.out]; omega) (by omega) (by rw [HL.out]; omega)).mono ?_
      rintro e w3 ⟨rfl, rd3, ch3⟩
      have own3 := ch3.own HK.out.2.1 (fun j hj e => by have := HGB.out.1; simp only [Value.ownBlock, Option.some.injEq] at hj; omega)
      have hb3 := HK.out.2.2.trans (ch3.below HK.out.2.2.size (fun j hj => by rw [hj]; exact HGB.out.2.2.2))
      obtain ⟨⟨z0, g0⟩, f0⟩ := own_slot own3 k hlt
      have hset := own_set own3 k ((Bt.num true (((Bt.rbits true l).drop (k * D)).take D) : Nat) : Int)
      rw [HVS.out] at hset
      have HN : Hid (Rd (w3.setCell ⟨B, k, none⟩ (.int .i64 (Bt.num true (((Bt.rbits true l).drop (k * D)).take D) : Nat))) w.heap.size g true v l ((k + 1) * D) ∧ (w3.setCell ⟨B, k, none⟩ (.int .i64 (Bt.num true (((Bt.rbits true l).drop (k * D)).take D) : Nat))).ownsRow w.heap.size 3 1 (.slice (some ⟨B, 0, none⟩) N N) N (ivs (vals D (Bt.rbits true l) (k + 1) ++ List.replicate (N - (k + 1)) 0)) ∧ Below w.heap.size w (w3.setCell ⟨B, k, none⟩ (.int .i64 (Bt.num true (((Bt.rbits true l).drop (k * D)).take D) : Nat)))) := Lib.hid
        ⟨by
          rw [HKD.out] at rd3
          exact rd3.kept (T := fun j => j = B) (Ch.set (T := fun j => j = B) (Ch.refl _ _) (p := ⟨B, k, none⟩) (.inl rfl) _) (by have := HGB.out.1; omega) (fun j hj => HGB.out.2.1 j hj), hset, hb3.setCell (p := ⟨B, k, none⟩) HGB.out.2.2.1 _⟩
      clear hset hb3 own3 rd3 ch3 HK hin HKD HVS
      generalize Bt.num true (((Bt.rbits true l).drop (k * D)).take D) = x at *
      go_wp2
      go_roundw
      case rel => exact ⟨k + 1, by omega, by go_num, HN⟩
      case measure => simp [intOf]; omega
    · obtain rfl : N = k := by omega
      go_wp2
      go_ret2
      refine ⟨_, rfl, ?_, HK.out.2.2⟩
      have h := HK.out.2.1
      rwa [Nat.sub_self, List.replicate_zero, List.append_nil] at h
end Sm
end Go.Proofs.Ytkjdekaipphlpaa
