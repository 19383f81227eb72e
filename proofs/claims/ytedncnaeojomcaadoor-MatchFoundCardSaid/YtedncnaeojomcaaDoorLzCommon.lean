/- match.common: its contract. -/
import Derived.Test.YtedncnaeojomcaaDoorLzWord
import Derived.Test.YtedncnaeojomcaaDoorLzTz
import Derived.Test.YtedncnaeojomcaaDoorLzMath
import Derived.Test.YtedncnaeojomcaaDoorDnB
namespace Go.Proofs.YtedncnaeojomcaaDoor
open Go.RowKit
namespace Lz
theorem xor64 (A B : Nat) (hA : A < 18446744073709551616) (hB : B < 18446744073709551616) : A ^^^ B < 18446744073709551616 := by
  have e : 18446744073709551616 = 2 ^ 64 := by decide
  rw [e] at hA hB ⊢
  exact Nat.xor_lt_two_pow hA hB
theorem wd_congr {g f : Nat → Nat} : ∀ (k a b : Nat), (∀ i, i < k → g (a + i) = f (b + i)) → wd g a k = wd f b k
  | 0, _, _, _ => rfl
  | k + 1, a, b, h => by
    have h0 := h 0 (by omega)
    have ih := wd_congr k (a + 1) (b + 1) (fun i hi => by
      have := h (i + 1) (by omega)
      rwa [show a + 1 + i = a + (i + 1) by omega, show b + 1 + i = b + (i + 1) by omega])
    unfold wd
    rw [ih, show g a = f b from h0]
end Lz
theorem gb_dropped (u : List UInt8) (n i : Nat) : gb (u.drop n) i = gb u (n + i) := by
  unfold gb; rw [List.getD, List.getD, List.getElem?_drop]
theorem word_at {f : Nat → Nat} {x n1 n : Nat} {b off cap : Nat} {u : List UInt8} {w : World} (h : Bs w (some ⟨b, off, none⟩) n1 cap u) (hf : ∀ i, i < n1 → gb u i = f (x + i)) (hn : n + 8 ≤ n1) :
    Calls Tryd.prog 67 #[.slice (some ⟨b, off + n, none⟩) (n1 - n) (cap - n)] w fun e w' => e = .returned (.int .u64 (Lz.wd f (x + n) 8 : Nat)) ∧ ∃ m, w' = w.drewN m := by
  have hle := h.hle
  have k := word_any _ _ _ _ w (h.drop n (by omega) _ (fun _ => rfl)) (by omega)
  rw [Lz.wd_congr (g := gb (u.drop n)) (f := f) 8 0 (x + n) (fun i hi => by rw [gb_dropped, hf _ (by omega)]; congr 1; omega)] at k
  exact k
set_option maxRecDepth 100000 in
set_option maxHeartbeats 4000000 in
theorem common_any (f : Nat → Nat) (hf8 : ∀ i, f i < 256) (x y : Nat) (a a' : Option Addr) (n1 c1 n2 c2 : Nat) (u v : List UInt8) (w : World) (h : Bs w a n1 c1 u) (h' : Bs w a' n2 c2 v)
    (hu : ∀ i, i < n1 → gb u i = f (x + i)) (hv : ∀ i, i < n2 → gb v i = f (y + i)) (h12 : n1 ≤ n2) (hdb : Db w) (hz : 0 < w.heap.size) (hl : n2 ≤ 1000000000) :
    Calls Tryd.prog 56 #[.slice a n1 c1, .slice a' n2 c2] w fun e w' => e = .returned (.int .i64 (Lz.cp f x y n1 : Nat)) ∧ Below w.heap.size w w' := by
  have hle := h.hle
  have hle' := h'.hle
  have H := Lib.hid h
  have H' := Lib.hid h'
  have HU := Lib.hid hu
  have HV := Lib.hid hv
  have HF := Lib.hid hf8
  have HDB : Hid (∀ w', Below w.heap.size w w' → Db w') := Lib.hid (fun w' hb => hdb.kept hb hz)
  clear h h' hu hv hdb hf8
  go_enter Tryd.func56, Tryd.ntmps56
  go_wp2
  go_loopw [5] (fun i wr => ∃ n : Nat, n ≤ n1 ∧ i = .int .i64 n ∧ Hid ((∀ i, i < n → f (x + i) = f (y + i)) ∧ Below w.heap.size w wr)) (fun i _ => n1 - (intOf i).toNat)
  case atStart => exact ⟨0, by omega, rfl, Lib.hid ⟨fun i hi => absurd hi (by omega), Below.refl _ _⟩⟩
  case round =>
    obtain ⟨n, hn, rfl, HN⟩ := hrel
    by_cases h8 : n + 8 ≤ n1
    · have d1 : decide ((8 : Int) ≤ (n1 : Int) - (n : Int)) = true := by simp; omega
      have d2 : decide ((8 : Int) ≤ (n2 : Int) - (n : Int)) = true := by simp; omega
      obtain ⟨b, off, rfl, _, _⟩ := H.out.at' 0 (by omega)
      obtain ⟨b', off', rfl, _, _⟩ := H'.out.at' 0 (by omega)
      have W1 : Hid (∀ k, Calls Tryd.prog 67 #[.slice (some ⟨b, off + n, none⟩) (n1 - n) (c1 - n)] (wr.drewN k) fun e w' => e = .returned (.int .u64 (Lz.wd f (x + n) 8 : Nat)) ∧ ∃ m, w' = wr.drewN m) := Lib.hid (fun k => (word_at ((H.out.mono HN.out.2).mono (dn_below wr k)) HU.out h8).mono (fun e w' h => ⟨h.1, by obtain ⟨m, hm⟩ := h.2; exact ⟨k + m, by rw [hm, World.drewN_drewN]⟩⟩))
      have W2 : Hid (∀ k, Calls Tryd.prog 67 #[.slice (some ⟨b', off' + n, none⟩) (n2 - n) (c2 - n)] (wr.drewN k) fun e w' => e = .returned (.int .u64 (Lz.wd f (y + n) 8 : Nat)) ∧ ∃ m, w' = wr.drewN m) := Lib.hid (fun k => (word_at ((H'.out.mono HN.out.2).mono (dn_below wr k)) HV.out (by omega)).mono (fun e w' h => ⟨h.1, by obtain ⟨m, hm⟩ := h.2; exact ⟨k + m, by rw [hm, World.drewN_drewN]⟩⟩))
      have i1 : (n : Int) ≤ (n1 : Int) := by omega
      have i2 : (n : Int) ≤ (n2 : Int) := by omega
      have hcn1 : ¬ c1 = n := by omega
      have hcn2 : ¬ c2 = n := by omega
      obtain ⟨A, hA⟩ : ∃ A, Lz.wd f (x + n) 8 = A := ⟨_, rfl⟩
      obtain ⟨B, hB⟩ : ∃ B, Lz.wd f (y + n) 8 = B := ⟨_, rfl⟩
      have hA64 : A < 18446744073709551616 := by rw [← hA]; exact Lz.wd_lt HF.out 8 (x + n)
      have hB64 : B < 18446744073709551616 := by rw [← hB]; exact Lz.wd_lt HF.out 8 (y + n)
      rw [hA] at W1
      rw [hB] at W2
      have HE : Hid (A = B → ∀ i, i < n + 8 → f (x + i) = f (y + i)) := Lib.hid (fun e i hi => by
        by_cases hin : i < n
        · exact HN.out.1 i hin
        · have := (Lz.wd_inj HF.out 8 (x + n) (y + n)).1 (by rw [hA, hB, e]) (i - n) (by omega)
          rwa [show x + n + (i - n) = x + i by omega, show y + n + (i - n) = y + i by omega] at this)
      have HT : Hid (∀ z, z < 64 → (A ^^^ B) % 2 ^ z = 0 → (A ^^^ B) % 2 ^ (z + 1) ≠ 0 → Lz.cp f x y n1 = n + z / 8) := Lib.hid (fun z hz64 t1 t2 => by
        rw [← hA, ← hB] at t1 t2
        obtain ⟨k1, k2⟩ := Lz.wd_tz HF.out (x + n) (y + n) 8 z t1 t2 (by omega)
        refine Lz.cp_is (by omega) (fun i hi => ?_) (fun _ => ?_)
        · by_cases hin : i < n
          · exact HN.out.1 i hin
          · have := k1 (i - n) (by omega)
            rwa [show x + n + (i - n) = x + i by omega, show y + n + (i - n) = y + i by omega] at this
        · rwa [Nat.add_assoc, Nat.add_assoc] at k2)
      have hxor : bits .xor .u64 (A : Int) (B : Int) = ((A ^^^ B : Nat) : Int) := u64_xor_nat A B hA64 hB64
      have hd64 : A ^^^ B < 18446744073709551616 := Lz.xor64 A B hA64 hB64
      have HD0 : Hid (A ^^^ B = 0 → A = B) := Lib.hid (fun h => by
        have h3 : A ^^^ (A ^^^ B) = A ^^^ 0 := by rw [h]
        rw [← Nat.xor_assoc, Nat.xor_self, Nat.zero_xor, Nat.xor_zero] at h3
        exact h3.symm)
      obtain ⟨D, hD⟩ : ∃ D, A ^^^ B = D := ⟨_, rfl⟩
      rw [hD] at HT hxor hd64 HD0
      have HD64 := Lib.hid hd64
      clear hA hB hA64 hB64 hD hd64
      by_cases hD0 : D = 0
      · have HE2 := Lib.hid (HE.out (HD0.out hD0))
        have d3 : ((D : Int) != 0) = false := by rw [hD0]; rfl
        clear hD0 HT HD0
        go_wp2_with fail
        go_quiet (first | (go_at_call 67; with_reducible exact W1.out _) | (go_at_call 67; with_reducible exact W2.out _))
        rename_i nq
        have HW : Hid (Below w.heap.size w (wr.drewN nq)) := Lib.hid (HN.out.2.trans ((dn_below wr nq).mono HN.out.2.size))
        go_wp2
        go_roundw
        case rel => exact ⟨n + 8, by omega, by go_num, Lib.hid ⟨HE2.out, HW.out⟩⟩
        case measure => simp [intOf]; omega
      · have HD1 : Hid (0 < D) := Lib.hid (by omega)
        have d3 : ((D : Int) != 0) = true := by simp; omega
        clear hD0 HD0 HE
        go_wp2_with fail
        go_quiet (first | (go_at_call 67; with_reducible exact W1.out _) | (go_at_call 67; with_reducible exact W2.out _))
        rename_i nq
        have HW : Hid (Below w.heap.size w (wr.drewN nq)) := Lib.hid (HN.out.2.trans ((dn_below wr nq).mono HN.out.2.size))
        have HTZ := Lib.hid (tz_any D HD1.out HD64.out (wr.drewN nq) (HDB.out _ HW.out))
        go_wp2_with fail
        refine HTZ.out.mono ?_
        rintro e w' ⟨⟨z, hz64, t1, t2, rfl⟩, rfl⟩
        have HR := Lib.hid (HT.out z hz64 t1 t2)
        have hq8 : IntKind.i64.wrap ((z : Int).tdiv 8) = ((z / 8 : Nat) : Int) := by rw [Int.tdiv_eq_ediv_of_nonneg (by omega), IntWalk.i64_in _ ⟨by omega, by omega⟩]; omega
        clear t1 t2 HT
        go_wp2
        go_ret
        exact ⟨ret_int (by rw [HR.out]; omega), HW.out⟩
    · have d1 : decide ((8 : Int) ≤ (n1 : Int) - (n : Int)) = false := by simp; omega
      go_wp2
      generalize wr = wa at *
      go_loopw [5] (fun i wr => ∃ n : Nat, n ≤ n1 ∧ i = .int .i64 n ∧ Hid ((∀ i, i < n → f (x + i) = f (y + i)) ∧ Below w.heap.size w wr)) (fun i _ => n1 - (intOf i).toNat)
      case atStart => exact ⟨n, hn, rfl, HN⟩
      case round =>
        clear h8 d1 hn HN
        obtain ⟨n, hn, rfl, HN⟩ := hrel
        by_cases hlt : n < n1
        · have d2 : decide ((n : Int) < (n1 : Int)) = true := by simp; omega
          have d3 : decide ((n : Int) < (n2 : Int)) = true := by simp; omega
          obtain ⟨b, off, rfl, _, k1⟩ := (H.out.mono HN.out.2).at' n hlt
          obtain ⟨b', off', rfl, _, k2⟩ := (H'.out.mono HN.out.2).at' n (by omega)
          rw [HU.out n hlt] at k1
          rw [HV.out n (by omega)] at k2
          have i1 : (n : Int) < (n1 : Int) := by omega
          have i2 : (n : Int) < (n2 : Int) := by omega
          by_cases he : f (x + n) = f (y + n)
          · have HE : Hid (∀ i, i < n + 1 → f (x + i) = f (y + i)) := Lib.hid (fun i hi => by
              by_cases hin : i < n
              · exact HN.out.1 i hin
              · obtain rfl : i = n := by omega
                exact he)
            have dd : ((f (x + n) : Int) == (f (y + n) : Int)) = true := by rw [he]; simp
            clear he
            generalize f (x + n) = p at *
            generalize f (y + n) = q at *
            go_wp2_with fail
            go_quiet (fail)
            rename_i nq
            have HW : Hid (Below w.heap.size w (wr.drewN nq)) := Lib.hid (HN.out.2.trans ((dn_below wr nq).mono HN.out.2.size))
            go_wp2
            go_roundw
            case rel => exact ⟨n + 1, by omega, by go_num, Lib.hid ⟨HE.out, HW.out⟩⟩
            case measure => simp [intOf]; omega
          · have HE : Hid (Lz.cp f x y n1 = n) := Lib.hid (Lz.cp_is (by omega) HN.out.1 (fun _ => he))
            have dd : ((f (x + n) : Int) == (f (y + n) : Int)) = false := by simpa using fun e => he (by omega)
            clear he
            generalize f (x + n) = p at *
            generalize f (y + n) = q at *
            go_wp2_with fail
            go_quiet (fail)
            rename_i nq
            have HW : Hid (Below w.heap.size w (wr.drewN nq)) := Lib.hid (HN.out.2.trans ((dn_below wr nq).mono HN.out.2.size))
            go_wp2
            go_ret
            exact ⟨by rw [HE.out]; rfl, HW.out⟩
        · have HE : Hid (Lz.cp f x y n1 = n) := Lib.hid (Lz.cp_is (by omega) HN.out.1 (fun h => absurd h hlt))
          have d2 : decide ((n : Int) < (n1 : Int)) = false := by simp; omega
          go_wp2_with fail
          go_quiet (fail)
          rename_i nq
          have HW : Hid (Below w.heap.size w (wr.drewN nq)) := Lib.hid (HN.out.2.trans ((dn_below wr nq).mono HN.out.2.size))
          go_wp2
          go_ret
          exact ⟨by rw [HE.out]; rfl, HW.out⟩
end Go.Proofs.YtedncnaeojomcaaDoor
