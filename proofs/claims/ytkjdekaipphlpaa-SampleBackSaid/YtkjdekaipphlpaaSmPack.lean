/- sample.Pack: its contract. -/
import Derived.Test.YtkjdekaipphlpaaSmSmall
import Derived.Test.YtkjdekaipphlpaaSmPackBits
import Derived.Test.YtkjdekaipphlpaaBitsNewW
import Derived.Test.YtkjdekaipphlpaaBitsPut
import Derived.Test.YtkjdekaipphlpaaBitsLen
import Derived.Test.YtkjdekaipphlpaaBitsBytes
import Derived.Test.YtkjdekaipphlpaaIntsGet
namespace Go.Proofs.Ytkjdekaipphlpaa
open Go.RowKit

namespace Sm
theorem pack_bad (a : Option Addr) (len cap : Nat) (d : Int) (w : World) (h : deep d = false ∨ 1048576 < len) :
    Calls Try.prog 8 #[.slice a len cap, .int .i64 d] w fun e w' => e = .returned (.tuple #[.slice none 0 0, .iface 41 (.int .i64 6)]) ∧ w = w' := by
  have HG := Lib.hid (fun w => goodDepth_any d w)
  by_cases hd : deep d = true
  · rw [hd] at HG
    have hb : 1048576 < len := by rcases h with h | h; (rw [hd] at h; simp at h); exact h
    have d1 : decide ((1048576 : Int) < (len : Int)) = true := by simp; omega
    clear h hb hd
    go_enter Try.func8, Try.ntmps8
    go_wp2_with fail
    refine (HG.out _).mono ?_
    rintro e w' ⟨rfl, rfl⟩
    go_wp2
    go_ret2
    exact ⟨rfl, rfl⟩
  · have hd : deep d = false := by simpa using hd
    rw [hd] at HG
    clear h hd
    go_enter Try.func8, Try.ntmps8
    go_wp2_with fail
    refine (HG.out _).mono ?_
    rintro e w' ⟨rfl, rfl⟩
    go_wp2
    go_ret2
    exact ⟨rfl, rfl⟩
def PkPost (w : World) (d : Nat) (l : List Int) (e : Ending) (w' : World) : Prop :=
  (allIn d l = true ∧ ∃ v, e = .returned (.tuple #[v, .nilIface]) ∧ w'.ownsRow w.heap.size 5 1 v (row d l).length (bvs (row d l)) ∧ Below w.heap.size w w') ∨
  (allIn d l = false ∧ e = .returned (.tuple #[.slice none 0 0, .iface 41 (.int .i64 7)]) ∧ Below w.heap.size w w')
set_option maxRecDepth 100000 in
set_option maxHeartbeats 2000000 in
theorem pack_any (a : Option Addr) (len cap : Nat) (l : List Int) (D : Nat) (w : World) (hD : Dp D) (h : Is .i64 w a len cap l) (hlen : len ≤ 1048576) :
    Calls Try.prog 8 #[.slice a len cap, .int .i64 D] w (PkPost w D l) := by
  have HG := Lib.hid (fun w => goodDepth_any D w)
  rw [dp_deep hD] at HG
  have hD16 := dp_le hD
  have htp := (top_pos hD).2.2
  have d1 : decide ((1048576 : Int) < (len : Int)) = false := by simp; omega
  have HL := Lib.hid h.hlen
  have H := Lib.hid h
  clear h hD
  go_enter Try.func8, Try.ntmps8
  go_wp2_with fail
  refine (HG.out _).mono ?_
  rintro e w' ⟨rfl, rfl⟩
  go_wp2_with fail
  refine (newWriter_any true w.heap.size _ (Nat.le_refl _)).mono ?_
  rintro e w1 ⟨rfl, wr1, hb1⟩
  have HW : Hid (Wr w1 w.heap.size w.heap.size true (.slice none 0 0) (enc D (l.take 0)) ∧ Below w.heap.size w w1) := Lib.hid ⟨wr1, hb1⟩
  clear wr1 hb1 d1
  obtain ⟨g, hg⟩ : ∃ g, w.heap.size = g := ⟨_, rfl⟩
  have HGE := Lib.hid hg
  rw [hg] at HW ⊢
  clear hg
  go_wp2
  have HEL : Hid (∀ k, (enc D (l.take k)).length ≤ 16777216) := Lib.hid (fun k => by
    have h1 := enc_length D (l.take k)
    have h2 : (l.take k).length ≤ 1048576 := by rw [List.length_take, HL.out]; omega
    have h3 : (l.take k).length * D ≤ 1048576 * 16 := Nat.mul_le_mul h2 (by omega)
    omega)
  go_loopw [23] (fun i wr => ∃ (k : Nat) (v : Value), k ≤ len ∧ i = .int .i64 k ∧ Hid (allIn D (l.take k) = true) ∧ Hid (Wr wr g g true v (enc D (l.take k)) ∧ Below g w wr)) (fun i _ => len - (intOf i).toNat)
  case atStart => exact ⟨0, _, by omega, rfl, Lib.hid rfl, HW⟩
  case round =>
    obtain ⟨k, v, hk, rfl, HA, HK⟩ := hrel
    have hgs : g ≤ wr.heap.size := by rw [← HGE.out]; exact HK.out.2.size
    by_cases hlt : k < len
    · obtain ⟨b, off, rfl, hb, hcell⟩ := (H.out.mono (by rw [HGE.out]; exact HK.out.2)).at' k hlt
      have hkl : k < l.length := by rw [HL.out]; exact hlt
      have HSN := Lib.hid (allIn_snoc D l k hkl)
      have HNO := Lib.hid (fun h => allIn_no D l k hkl h)
      have HES := Lib.hid (show enc D (l.take (k + 1)) = enc D (l.take k) ++ Bt.dg true (l.getD k 0).toNat D from by rw [ints_snoc l k hkl, enc_snoc])
      clear hkl
      generalize l.getD k 0 = n at *
      by_cases hn0 : n < 0
      · have HF := Lib.hid (HNO.out (by unfold inD; rw [decide_eq_false (by omega)]; rfl))
        have HX := Lib.hid hn0
        clear hn0
        go_wp2_with fail
        refine (put_no _ g n D (.inr (.inr HX.out))).mono ?_
        rintro e w' ⟨rfl, rfl⟩
        go_wp2
        go_ret2
        exact .inr ⟨HF.out, rfl, by rw [HGE.out]; exact HK.out.2⟩
      obtain ⟨m, rfl⟩ := Int.eq_ofNat_of_zero_le (show 0 ≤ n by omega)
      by_cases hbig : top D < m
      · have HF := Lib.hid (HNO.out (by unfold inD; rw [decide_eq_false (p := (m : Int) ≤ top D) (by omega), Bool.and_false]))
        have HX := Lib.hid (show 2 ^ D ≤ m by omega)
        clear hbig hn0
        go_wp2_with fail
        refine (put_big _ g m D (by omega) HX.out).mono ?_
        rintro e w' ⟨rfl, rfl⟩
        go_wp2
        go_ret2
        exact .inr ⟨HF.out, rfl, by rw [HGE.out]; exact HK.out.2⟩
      have HF : Hid (allIn D (l.take (k + 1)) = true) := Lib.hid (by rw [HSN.out, HA.out]; unfold inD; simp; omega)
      have HX := Lib.hid (show m < 2 ^ D by omega)
      have hel := HEL.out k
      rw [Int.toNat_natCast] at HES
      clear hbig hn0
      go_wp2_with fail
      refine (putw_ok _ g g true v _ m D HK.out.1 hgs (by omega) HX.out (by omega)).mono ?_
      rintro e w2 ⟨rfl, v', wr2, ch2, hown⟩
      have HK2 : Hid (Wr w2 g g true v' (enc D (l.take (k + 1))) ∧ Below g w w2) := Lib.hid ⟨by rw [HES.out]; exact wr2,
        HK.out.2.trans (ch2.below hgs (fun j hj => hj.elim (fun e => by omega) (fun e => (HK.out.1.own.lt j e).1)))⟩
      clear wr2 ch2 hown hel HES
      go_wp2
      go_roundw
      case rel => exact ⟨k + 1, v', by omega, by go_num, HF, HK2⟩
      case measure => simp [intOf]; omega
    · obtain rfl : len = k := by omega
      have HTK := Lib.hid (show l.take len = l from List.take_of_length_le (by rw [HL.out]; exact Nat.le_refl _))
      rw [HTK.out] at HK HA
      have hel := HEL.out len
      rw [HTK.out] at hel
      have HEN := Lib.hid (enc_length D l)
      have hml : mis (enc D l).length ≤ 8 := by unfold mis; omega
      go_wp2_with fail
      refine (len_any _ g g true v _ HK.out.1).mono ?_
      rintro e w' ⟨rfl, rfl⟩
      go_wp2_with fail
      refine (missing_sm _ _ (by omega)).mono ?_
      rintro e w' ⟨rfl, rfl⟩
      have HPD : Hid (∀ f, Bt.packs true f (enc D l ++ Bt.dg true 0 (mis (enc D l).length)) = row D l) := Lib.hid (fun f => by rw [dg_zero, packs_pad]; rfl)
      have HPL : Hid ((enc D l ++ Bt.dg true 0 (mis (enc D l).length)).length ≤ 16777224) := Lib.hid (by rw [List.length_append, Bt.dg_length]; omega)
      generalize mis (enc D l).length = mz at *
      go_wp2_with fail
      refine (putw_ok _ g g true v _ 0 mz HK.out.1 hgs (by omega) (Nat.pow_pos (by omega)) (by omega)).mono ?_
      rintro e w2 ⟨rfl, v', wr2, ch2, hown⟩
      have hb2 : Below g w w2 := HK.out.2.trans (ch2.below hgs (fun j hj => hj.elim (fun e => by omega) (fun e => (HK.out.1.own.lt j e).1)))
      have HW2 := Lib.hid wr2
      have HB2 := Lib.hid hb2
      clear wr2 ch2 hown hel hb2
      go_wp2_with fail
      have hpl := HPL.out
      refine (bytes_any _ g g true v' _ HW2.out (by omega)).mono ?_
      rintro e w3 ⟨u, rfl, own3, hb3⟩
      rw [HPD.out, show ((enc D l ++ Bt.dg true 0 mz).length + 7) / 8 = (row D l).length by rw [← HPD.out true, Bt.packs_length]] at own3
      have HFIN : Hid (PkPost w D l (.returned (.tuple #[u, .nilIface])) w3) := Lib.hid (.inl ⟨HA.out, u, rfl, own_base own3 (fun j hj => by have := (own3.lt j hj).1; have := HB2.out.size; omega),
        by rw [HGE.out]; exact HB2.out.trans (hb3.mono (by rw [← HGE.out]; exact HB2.out.size))⟩)
      clear own3 hb3 hpl
      go_wp2
      go_ret2
      exact HFIN.out
end Sm
end Go.Proofs.Ytkjdekaipphlpaa
