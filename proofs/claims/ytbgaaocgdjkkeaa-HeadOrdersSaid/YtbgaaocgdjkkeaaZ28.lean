/- chunk.inForm, chunk.fits, the law's large: their contracts. -/
import Derived.Test.YtbgaaocgdjkkeaaZ24
set_option linter.unusedSimpArgs false
set_option linter.unusedVariables false
section
namespace Go.Proofs.Ytbgaaocgdjkkeaa
open Go.RowKit

theorem fits_any (a : Option Addr) (len cap : Nat) (l : List Ckm) (w : World) (h : Cs w a len cap l) (hr : len * 40 ≤ 140737488351232) (hd : ∀ c ∈ l, c.s.len ≤ 140737488351232) :
    Calls Try.prog 58 #[.slice a len cap] w fun e w' => e = .returned (.bool (decide (8 + Ck.size (cps l) ≤ 1048576))) ∧ Below w.heap.size w w' := by
  have hle := h.hle
  have HL := Lib.hid h.hlen
  have H := Lib.hid h
  have HD := Lib.hid hd
  clear h hd
  go_enter Try.func58, Try.ntmps58
  go_wp2
  go_loopw [3, 8] (fun x i wr => ∃ k q : Nat, k ≤ len ∧ i = .int .i64 k ∧ x = .int .i64 q ∧ Hid (q + Ck.size ((cps l).take k) = 1048568) ∧ Hid (Below w.heap.size w wr)) (fun _ i _ => len - (intOf i).toNat)
  case atStart => exact ⟨0, 1048568, by omega, rfl, rfl, Lib.hid (by simp [Ck.size]), Lib.hid (Below.refl _ _)⟩
  case round =>
    obtain ⟨k, q, hk, rfl, rfl, HK, HB⟩ := hrel
    by_cases hlt : k < len
    · have hkl : k < l.length := by rw [HL.out]; exact hlt
      obtain ⟨b, off, rfl, hb, c0, c1, hs⟩ := (H.out.mono HB.out).at' k hlt
      have hn2 := HD.out _ (nck_mem l k hkl)
      have hsl := hs.hlen
      have hsle := hs.hle
      have HSN := Lib.hid (Ck.size_snoc (cps l) k (by rw [cps_length]; exact hkl))
      have HT := Lib.hid (Ck.size_take_le (cps l) (k + 1))
      rw [cps_nth l k hkl] at HSN
      have hcc : (nck l k).c = ((nck l k).n, (nck l k).s.l) := rfl
      rw [hcc] at HSN
      generalize nck l k = c at *
      obtain ⟨nm, sa, sl, sc, sd⟩ := c
      simp only at *
      unfold Sl.val at c1
      simp only at c1
      have HQ : Hid (Ck.size ((cps l).take (k + 1)) = Ck.size ((cps l).take k) + (12 + sl)) := Lib.hid (by rw [HSN.out, hsl])
      have HB2 := Lib.hid (HB.out.alloc HB.out.size (.cells #[.string (str nm), .slice sa sl sc] 26))
      have hq : q ≤ 1048568 := by have := HK.out; omega
      clear HSN hsl hcc hs
      by_cases hbig : q < 12 + sl
      · have dgt : decide ((q : Int) - (12 + (sl : Int)) < 0) = true := by simp; omega
        have HF : Hid (decide (8 + Ck.size (cps l) ≤ 1048576) = false) := Lib.hid (by have := HT.out; have h2 := HK.out; rw [HQ.out] at this; simp; omega)
        clear hbig
        go_wp2
        go_ret
        exact ⟨by rw [HF.out]; rfl, HB2.out⟩
      · have dgt : decide ((q : Int) - (12 + (sl : Int)) < 0) = false := by simp; omega
        have HS := Lib.hid (show 12 + sl ≤ q by omega)
        have HE := Lib.hid (show (q : Int) - (12 + (sl : Int)) = ((q - (12 + sl) : Nat) : Int) by omega)
        clear hbig
        go_wp2
        go_roundw
        case rel => exact ⟨k + 1, q - (12 + sl), by omega, by go_num, by rw [← HE.out], Lib.hid (by have h1 := HQ.out; have h2 := HK.out; have h3 := HS.out; omega), HB2⟩
        case measure => simp [intOf]; omega
    · have hkl : len = k := by omega
      have HF : Hid (decide (8 + Ck.size (cps l) ≤ 1048576) = true) := Lib.hid (by
        have h1 := HK.out
        rw [List.take_of_length_le (by rw [cps_length, HL.out]; omega)] at h1
        simp; omega)
      clear hkl
      go_wp2
      go_ret
      exact ⟨by rw [HF.out]; rfl, HB.out⟩
theorem inForm_any (a : Option Addr) (len cap : Nat) (l : List Ckm) (w : World) (h : Cs w a len cap l) (hr : len * 40 ≤ 140737488351232) (hd : ∀ c ∈ l, c.n.length ≤ 140737488351232 ∧ c.s.len ≤ 140737488351232) :
    Calls Try.prog 57 #[.slice a len cap] w fun e w' => e = .returned (.bool (Ck.good (cps l))) ∧ Below w.heap.size w w' := by
  have hle := h.hle
  have HL := Lib.hid h.hlen
  have H := Lib.hid h
  have HD := Lib.hid hd
  clear h hd
  go_enter Try.func57, Try.ntmps57
  go_wp2
  go_loopw [3, 5, 8] (fun _ _ i wr => ∃ k : Nat, k ≤ len ∧ i = .int .i64 k ∧ Hid (∀ i, i < k → Ck.okAt (cps l) i = true) ∧ Hid (Below w.heap.size w wr)) (fun _ _ i _ => len - (intOf i).toNat)
  case atStart => exact ⟨0, by omega, rfl, Lib.hid (fun i hi => absurd hi (by omega)), Lib.hid (Below.refl _ _)⟩
  case round =>
    obtain ⟨k, hk, rfl, HK, HB⟩ := hrel
    by_cases hlt : k < len
    · have hkl : k < l.length := by rw [HL.out]; exact hlt
      obtain ⟨b, off, rfl, hb, c0, c1, hs⟩ := (H.out.mono HB.out).at' k hlt
      obtain ⟨hn1, hn2⟩ := HD.out _ (nck_mem l k hkl)
      have hsl := hs.hlen
      have hsle := hs.hle
      have hok : Ck.okAt (cps l) k = (Ck.named (nck l k).n && (((nck l k).n == Ck.iend) == decide (k + 1 = len)) && !(decide (k + 1 = len) && decide (0 < (nck l k).s.l.length))) := by
        unfold Ck.okAt; rw [cps_nth l k hkl, cps_length, HL.out]; rfl
      have HG := Lib.hid (Ck.good_not (cps l) k (by rw [cps_length]; exact hkl))
      obtain ⟨ok, hokd⟩ : ∃ ok, Ck.okAt (cps l) k = ok := ⟨_, rfl⟩
      rw [hokd] at hok HG
      have HOKD := Lib.hid (show Ck.okAt (cps l) k = ok from hokd)
      clear hokd
      generalize nck l k = c at *
      obtain ⟨nm, sa, sl, sc, sd⟩ := c
      simp only at *
      unfold Sl.val at c1
      simp only at c1
      rw [hsl] at hok
      have HB2 := Lib.hid (HB.out.alloc HB.out.size (.cells #[.string (str nm), .slice sa sl sc] 26))
      have HNM := Lib.hid (fun w => named_any nm w (by omega))
      have hend : ((str nm).toList == ([73, 69, 78, 68] : List UInt8)) = (nm == Ck.iend) := by rw [str_list]; rfl
      have hlast : ((k : Int) == (len : Int) - 1) = decide (k + 1 = len) := by apply Bool.eq_iff_iff.2; simp; omega
      have HOK := Lib.hid hok
      clear hok hs hsl
      go_wp2_with fail
      refine (HNM.out _).mono ?_
      rintro e w2 ⟨rfl, hb2⟩
      have x0 : w2.cell? ⟨wr.heap.size, 0, none⟩ = some (.string (str nm)) := by rw [hb2.cell (p := ⟨wr.heap.size, 0, none⟩) (by simp), cell_of_row _ _ 0 _ _ (0, 0) (heap_alloc_last _ _)]; rfl
      have x1 : w2.cell? ⟨wr.heap.size, 1, none⟩ = some (.slice sa sl sc) := by rw [hb2.cell (p := ⟨wr.heap.size, 1, none⟩) (by simp), cell_of_row _ _ 1 _ _ (0, 0) (heap_alloc_last _ _)]; rfl
      have HB3 := Lib.hid (below_then HB2.out hb2)
      clear hb2 HB2 HB HNM c0 c1
      have HKN : ok = true → Hid (∀ i, i < k + 1 → Ck.okAt (cps l) i = true) := fun h => Lib.hid (fun i hi => by
        by_cases e : i = k
        · rw [e, HOKD.out, h]
        · exact HK.out i (by omega))
      have HKN := Lib.hid HKN
      clear HK HOKD
      generalize Ck.named nm = b1 at *
      generalize (nm == Ck.iend) = b2 at *
      generalize decide (k + 1 = len) = b3 at *
      obtain ⟨b4, hpos⟩ : ∃ b, decide (0 < sl) = b := ⟨_, rfl⟩
      rw [hpos] at HOK
      cases b1 <;> cases b2 <;> cases b3 <;> cases b4
      all_goals
        go_wp2
        first
        | (go_ret; have hok := HOK.out; simp at hok; rw [HG.out hok]; exact ⟨rfl, HB3.out⟩)
        | (refine ⟨⟨k + 1, by omega, by go_num, HKN.out HOK.out, HB3⟩, ?_⟩
           simp [intOf]; omega)
        | fail
    · have hkl : len = k := by omega
      have HF : Hid (Ck.good (cps l) = decide (0 < (cps l).length)) := Lib.hid (Ck.good_of _ (fun i hi => HK.out i (by rw [cps_length, HL.out] at hi; omega)))
      have HL2 : Hid ((cps l).length = len) := Lib.hid (by rw [cps_length, HL.out])
      clear hkl
      obtain ⟨b4, hb4⟩ : ∃ b, decide (0 < len) = b := ⟨_, rfl⟩
      have H4 := Lib.hid hb4
      go_wp2
      go_ret
      exact ⟨by rw [HF.out, HL2.out, H4.out]; rfl, HB.out⟩
end Go.Proofs.Ytbgaaocgdjkkeaa
end
