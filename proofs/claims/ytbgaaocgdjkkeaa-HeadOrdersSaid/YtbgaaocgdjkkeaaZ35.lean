/- chunk.Write: its contract. -/
import Derived.Test.YtbgaaocgdjkkeaaZ28
import Derived.Test.YtbgaaocgdjkkeaaZ34
import Derived.Lib.SlBytesConst
set_option linter.unusedSimpArgs false
set_option linter.unusedVariables false
section
namespace Go.Proofs.Ytbgaaocgdjkkeaa
open Go.RowKit

namespace Ck
theorem nth_le_sum (l : List C) (f : C → Nat) (k : Nat) (hk : k < l.length) : f (nth l k) ≤ (l.map f).sum := by
  have h1 := sum_take_le l f (k + 1)
  rw [take_succ l k hk, List.map_append, List.sum_append] at h1
  simp at h1; omega
theorem data_le (l : List C) (k : Nat) (hk : k < l.length) : 12 + (nth l k).2.length ≤ size l := nth_le_sum l (fun c => 12 + c.2.length) k hk
theorem size_le_lg : ∀ l : List C, size l ≤ lg l
  | [] => Nat.le_refl _
  | c :: l => by have := size_le_lg l; simp only [size, lg, List.map_cons, List.sum_cons] at *; omega
theorem okAt_named {l : List C} {k : Nat} (h : okAt l k = true) : (nth l k).1.length = 4 := by
  simp only [okAt, named, Bool.and_eq_true, beq_iff_eq] at h
  exact h.1.1.1
end Ck
def WkPost (w : World) (l : List Ck.C) (v : Value) (w' : World) : Prop := w'.ownsRow w.heap.size 5 1 v (8 + Ck.size l) (bvs (Ck.wr l)) ∧ Below w.heap.size w w'
/-- What Write answers. -/
def WrPost (w : World) (l : List Ck.C) (e : Ending) (w' : World) : Prop :=
  if Ck.good l = true then
    if 8 + Ck.size l ≤ 1048576 then ∃ v, e = .returned (.tuple #[v, .nilIface]) ∧ WkPost w l v w'
    else e = .returned (.tuple #[.slice none 0 0, .iface 49 (.int .i64 4)]) ∧ Below w.heap.size w w'
  else e = .returned (.tuple #[.slice none 0 0, .iface 49 (.int .i64 6)]) ∧ Below w.heap.size w w'
set_option maxRecDepth 100000 in
set_option maxHeartbeats 4000000 in
theorem write_any (a : Option Addr) (len cap : Nat) (l : List Ckm) (w : World) (h : Cs w a len cap l) (hr : len * 40 ≤ 140737488351232) (hd : ∀ c ∈ l, c.n.length ≤ 140737488351232 ∧ c.s.len ≤ 140737488351232) :
    Calls Try.prog 34 #[.slice a len cap] w (WrPost w (cps l)) := by
  have hle := h.hle
  have HL := Lib.hid h.hlen
  have H := Lib.hid h
  have HIF := Lib.hid (inForm_any a len cap l w h hr hd)
  have HFI := Lib.hid (fun (w' : World) (hb : Below w.heap.size w w') => fits_any a len cap l w' (h.mono hb) hr (fun c hc => (hd c hc).2))
  have HP := Lib.hid (show ∀ e w', WrPost w (cps l) e w' ↔ _ from fun _ _ => Iff.rfl)
  clear h hd
  by_cases hg : Ck.good (cps l) = true
  rotate_left
  · have hg' : Ck.good (cps l) = false := by cases h : Ck.good (cps l) with | false => rfl | true => exact absurd h hg
    have HPX := Lib.hid (fun e w' (h : e = .returned (.tuple #[.slice none 0 0, .iface 49 (.int .i64 6)]) ∧ Below w.heap.size w w') => (show WrPost w (cps l) e w' by unfold WrPost; rw [if_neg hg]; exact h))
    rw [hg'] at HIF
    clear hg hg' HP
    go_enter Try.func34, Try.ntmps34
    go_wp2_with fail
    refine HIF.out.mono ?_
    rintro e w1 ⟨rfl, hb1⟩
    go_wp2
    go_ret2
    exact HPX.out _ _ ⟨rfl, hb1⟩
  by_cases hf : 8 + Ck.size (cps l) ≤ 1048576
  rotate_left
  · have HPX := Lib.hid (fun e w' (h : e = .returned (.tuple #[.slice none 0 0, .iface 49 (.int .i64 4)]) ∧ Below w.heap.size w w') => (show WrPost w (cps l) e w' by unfold WrPost; rw [if_pos hg, if_neg hf]; exact h))
    have hf' := decide_eq_false hf
    rw [hg] at HIF
    rw [hf'] at HFI
    clear hg hf hf' HP
    go_enter Try.func34, Try.ntmps34
    go_wp2_with fail
    refine HIF.out.mono ?_
    rintro e w1 ⟨rfl, hb1⟩
    go_wp2_with fail
    refine (HFI.out _ hb1).mono ?_
    rintro e w2 ⟨rfl, hb2⟩
    have hb2 := below_then hb1 hb2
    go_wp2
    go_ret2
    exact HPX.out _ _ ⟨rfl, hb2⟩
  · have HPX := Lib.hid (fun e w' (h : ∃ v, e = .returned (.tuple #[v, .nilIface]) ∧ WkPost w (cps l) v w') => (show WrPost w (cps l) e w' by unfold WrPost; rw [if_pos hg, if_pos hf]; exact h))
    have hf' := decide_eq_true hf
    have HG := Lib.hid (Ck.good_all hg).2
    have hlen0 : 0 < len := by have := (Ck.good_all hg).1; rw [cps_length, HL.out] at this; exact this
    have HF := Lib.hid hf
    rw [hg] at HIF
    rw [hf'] at HFI
    have kc := fun (w : World) (C : Array Value) (n c : Nat) => Lib.run_convert_bytes_const (P := Try.prog) w 24 5 C n c Try.underlying24 Try.underlying5
    clear hg hf hf' HP
    go_enter Try.func34, Try.ntmps34
    go_wp2_with fail
    refine HIF.out.mono ?_
    rintro e w1 ⟨rfl, hb1⟩
    go_wp2_with fail
    refine (HFI.out _ hb1).mono ?_
    rintro e w2 ⟨rfl, hb2⟩
    have hb2 := below_then hb1 hb2
    have HB2 := Lib.hid hb2
    clear hb1 hb2
    go_wp2
    have HS3 : Hid (Uo (w2.alloc (.cells #[.int .u8 137, .int .u8 80, .int .u8 78, .int .u8 71, .int .u8 13, .int .u8 10, .int .u8 26, .int .u8 10] 5 (8, 9))) w.heap.size 5 (.slice (some ⟨w2.heap.size, 0, none⟩) 8 8) 8 (bvs Ck.sign)) := Lib.hid (by
      have hb := bs_new w2 _ rfl Ck.sign 5 (8, 9) 8 rfl (by omega) _ rfl
      exact .inr ⟨w2.heap.size, 0, rfl, by simp, rfl, fun j u hu => hb.news _ rfl j u hu⟩)
    have HB3 := Lib.hid (HB2.out.alloc HB2.out.size (.cells #[.int .u8 137, .int .u8 80, .int .u8 78, .int .u8 71, .int .u8 13, .int .u8 10, .int .u8 26, .int .u8 10] 5 (8, 9)))
    clear kc hb2 HB2
    revert HS3 HB3
    generalize (w2.alloc (.cells #[.int .u8 137, .int .u8 80, .int .u8 78, .int .u8 71, .int .u8 13, .int .u8 10, .int .u8 26, .int .u8 10] 5 (8, 9))) = w3
    generalize (some (⟨w2.heap.size, 0, none⟩ : Addr)) = a3
    intro HS3 HB3
    go_loopw [4, 7, 8, 21] (fun v _ _ i wr => ∃ k : Nat, k ≤ len ∧ i = .int .i64 k ∧ Hid (Uo wr w.heap.size 5 v (8 + Ck.size ((cps l).take k)) (bvs (Ck.sign ++ Ck.encs ((cps l).take k)))) ∧ Hid (0 < k → wr.ownsRow w.heap.size 5 1 v (8 + Ck.size ((cps l).take k)) (bvs (Ck.sign ++ Ck.encs ((cps l).take k)))) ∧ Hid (Below w.heap.size w wr)) (fun _ _ _ i _ => len - (intOf i).toNat)
    case atStart => exact ⟨0, by omega, rfl, HS3, Lib.hid (fun h => absurd h (by omega)), HB3⟩
    case round =>
      obtain ⟨k, hk, rfl, HU, HO, HB⟩ := hrel
      by_cases hlt : k < len
      · have hkl : k < l.length := by rw [HL.out]; exact hlt
        obtain ⟨b, off, rfl, hb, c0, c1, hs⟩ := (H.out.mono HB.out).at' k hlt
        have hs0 := H.out.data (nck_mem l k hkl)
        have hkc : k < (cps l).length := by rw [cps_length]; exact hkl
        have hn4 := Ck.okAt_named (HG.out k hkc)
        have hdl := Ck.data_le (cps l) k hkc
        have HSN := Lib.hid (Ck.size_snoc (cps l) k hkc)
        have HES := Lib.hid (Ck.encs_snoc (cps l) k hkc)
        have hst := Ck.size_take_le (cps l) (k + 1)
        rw [cps_nth l k hkl] at HSN HES hn4 hdl
        rw [HSN.out] at hst
        have hcc : (nck l k).c = ((nck l k).n, (nck l k).s.l) := rfl
        rw [hcc] at HSN HES hn4 hdl hst
        generalize nck l k = c at *
        obtain ⟨nm, sl⟩ := c
        simp only at *
        obtain ⟨sa, sn, sc, sd⟩ := sl
        simp only at *
        have hsl : sd.length = sn := hs.hlen
        have hf2 := HF.out
        rw [hsl] at HSN hst hdl
        generalize Ck.size ((cps l).take k) = q at *
        have HR := Lib.hid (appended_any w (wr.alloc (.cells #[.string (str nm), .slice sa sn sc] 26)) _ _ _ nm ⟨sa, sn, sc, sd⟩ (HB.out.alloc HB.out.size _) (HU.out.below (below_alloc wr _)) hs0 hn4 (by omega) (by simp only; omega))
        unfold Sl.val at c1 HR
        simp only at c1 HR
        have HSL := Lib.hid hsl
        clear hs hsl hcc hs0 HU HO hf2
        go_wp2_with fail
        refine HR.out.mono ?_
        rintro e w4 ⟨v4, rfl, ho4, hb4⟩
        simp only at ho4
        rw [HSL.out] at ho4
        have HO4 : Hid (w4.ownsRow w.heap.size 5 1 v4 (8 + Ck.size ((cps l).take (k + 1))) (bvs (Ck.sign ++ Ck.encs ((cps l).take (k + 1))))) := Lib.hid (by
          rw [HSN.out, HES.out, ← List.append_assoc, show 8 + (q + (12 + sn)) = 8 + q + (12 + sn) by omega]
          exact ho4)
        have HB4 := Lib.hid hb4
        clear ho4 hb4 HSN HES HR
        go_wp2
        go_roundw
        case rel => exact ⟨k + 1, by omega, by go_num, Lib.hid (.inl HO4.out), Lib.hid (fun _ => HO4.out), HB4⟩
        case measure => simp [intOf]; omega
      · have hkl : (cps l).take k = cps l := List.take_of_length_le (by rw [cps_length, HL.out]; omega)
        rw [hkl] at HO
        have HO4 := Lib.hid (HO.out (by omega))
        clear hkl HU HO
        go_wp2
        go_ret2
        exact HPX.out _ _ ⟨_, rfl, HO4.out, HB.out⟩
end Go.Proofs.Ytbgaaocgdjkkeaa
end
