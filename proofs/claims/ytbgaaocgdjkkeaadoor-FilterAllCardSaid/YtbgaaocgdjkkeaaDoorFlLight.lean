/- filter.Lightest: its contract. -/
import Derived.Test.YtbgaaocgdjkkeaaDoorFlOf
import Derived.Test.YtbgaaocgdjkkeaaDoorFlWt
namespace Go.Proofs.YtbgaaocgdjkkeaaDoor
open Go.RowKit

/-- While the kinds are gone through: behind k kinds b is the best one, of weight s. -/
structure Fi.Lt (l m : List UInt8) (p k b s : Nat) : Prop where
  zero : k = 0 → b = 0 ∧ s = 0
  pos : 0 < k → b = Fi.lightN l m p (k - 1) ∧ s = Fi.weight (Fi.flt (b : Nat) l m p)
theorem Fi.Lt.first (l m : List UInt8) (p : Nat) : Fi.Lt l m p 1 0 (Fi.weight (Fi.flt (0 : Nat) l m p)) := ⟨fun h => by omega, fun _ => ⟨rfl, rfl⟩⟩
theorem Fi.Lt.yes {l m : List UInt8} {p k b s : Nat} (h : Fi.Lt l m p k b s) (hk : 0 < k) (hlt : Fi.weight (Fi.flt (k : Nat) l m p) < s) : Fi.Lt l m p (k + 1) k (Fi.weight (Fi.flt (k : Nat) l m p)) := by
  obtain ⟨h1, h2⟩ := h.pos hk
  refine ⟨fun h => by omega, fun _ => ⟨?_, rfl⟩⟩
  obtain ⟨j, rfl⟩ : ∃ j, k = j + 1 := ⟨k - 1, by omega⟩
  simp only [Nat.add_sub_cancel] at h1 ⊢
  rw [Fi.lightN, ← h1, ← h2, if_pos hlt]
theorem Fi.Lt.no {l m : List UInt8} {p k b s : Nat} (h : Fi.Lt l m p k b s) (hk : 0 < k) (hlt : ¬ Fi.weight (Fi.flt (k : Nat) l m p) < s) : Fi.Lt l m p (k + 1) b s := by
  obtain ⟨h1, h2⟩ := h.pos hk
  refine ⟨fun h => by omega, fun _ => ⟨?_, h2⟩⟩
  obtain ⟨j, rfl⟩ : ∃ j, k = j + 1 := ⟨k - 1, by omega⟩
  simp only [Nat.add_sub_cancel] at h1 ⊢
  rw [Fi.lightN, ← h1, ← h2, if_neg hlt]
def Fi.LPost (w : World) (b : Bool) (k : Nat) (e : Ending) (w' : World) : Prop :=
  Below w.heap.size w w' ∧ ((b = true ∧ e = .returned (.tuple #[.int .i64 k, .nilIface])) ∨ (b = false ∧ e = .returned (.tuple #[.int .i64 0, .iface 38 (.int .i64 6)])))
set_option maxHeartbeats 2000000 in
theorem lightest_any (ra : Option Addr) (n rcap : Nat) (l : List UInt8) (aa : Option Addr) (alen acap : Nat) (m : List UInt8) (p : Int) (w : World)
    (hr : Bs w ra n rcap l) (ha : Bs w aa alen acap m) (hn : n ≤ 100000000) (hm : alen ≤ 100000000) :
    Calls Tryd.prog 19 #[.slice ra n rcap, .slice aa alen acap, .int .i64 p] w (Fi.LPost w (Fi.gr n alen p) (Fi.light l m p.toNat)) := by
  have HGR := Lib.hid (goodRow_any ra n rcap aa alen acap p w (by omega) (by omega))
  have HGL := Lib.hid (fun h => @Fi.gr_len n alen p h)
  have HLN := Lib.hid hr.hlen
  have HR := Lib.hid hr
  have HA := Lib.hid ha
  clear hr ha
  cases h2 : Fi.gr n alen p
  · rw [h2] at HGR
    clear HGL h2
    go_enter Tryd.func19, Tryd.ntmps19
    go_wp2_with fail
    refine HGR.out.mono ?_
    rintro e w' ⟨rfl, rfl⟩
    go_wp2
    go_ret2
    exact ⟨Below.refl _ _, .inr ⟨rfl, rfl⟩⟩
  · obtain ⟨⟨hp1, hp8⟩, hl⟩ := HGL.out h2
    obtain ⟨q, rfl⟩ : ∃ q : Nat, p = q := ⟨p.toNat, by omega⟩
    rw [Int.toNat_natCast]
    rw [h2] at HGR
    clear HGL h2
    have hq1 : 1 ≤ q := by omega
    have hq8 : q ≤ 8 := by omega
    have HL := Lib.hid hl
    clear hl hp1 hp8
    go_enter Tryd.func19, Tryd.ntmps19
    go_wp2_with fail
    refine HGR.out.mono ?_
    rintro e w' ⟨rfl, rfl⟩
    go_wp2_with (at_make; refine wpl_make_bytes rfl _ _ rfl w.heap.size .i64 .i64 _ _ n rfl rfl rfl rfl (by omega) (Nat.le_refl _) ?_)
    intro w1 own1 hb1
    have hbk := Bk.of_own own1
    have HBK := Lib.hid hbk
    have HB1 := Lib.hid hb1
    clear own1 hbk hb1 HGR
    go_wp2
    go_loopw [9, 10, 11, 12, 22] (fun bv sv _ _ i wr => ∃ k b s : Nat, k ≤ 5 ∧ i = .int .i64 k ∧ bv = .int .i64 b ∧ sv = .int .i64 s ∧ Hid (Fi.Lt l m q k b s) ∧ Hid (Below w.heap.size w wr ∧ ∃ F, F.length = n ∧ Bk wr w.heap.size F)) (fun _ _ _ _ i _ => 5 - (intOf i).toNat)
    case atStart => exact ⟨0, 0, 0, by omega, rfl, rfl, rfl, Lib.hid ⟨fun _ => ⟨rfl, rfl⟩, fun h => by omega⟩, Lib.hid ⟨HB1.out, _, by simp, HBK.out⟩⟩
    case round =>
      obtain ⟨k, b, s, hk, rfl, rfl, rfl, HLT, HX⟩ := hrel
      clear HBK HB1
      by_cases hk5 : k < 5
      · obtain ⟨hbw, F, hF, hbF⟩ := HX.out
        have HCALL := Lib.hid (filterTo_any w.heap.size 0 n n F k ra rcap l aa alen acap m q wr hbF (by omega) (Nat.le_refl _) (by omega) hq1 hq8 HL.out
          (fun w' hc => HR.out.mono (hbw.trans (hc.below (B := w.heap.size) hbw.size (fun k hk => by omega)))) (fun w' hc => HA.out.mono (hbw.trans (hc.below (B := w.heap.size) hbw.size (fun k hk => by omega)))))
        rw [show List.take 0 F ++ Fi.flt k l m q ++ List.drop (0 + n) F = Fi.flt k l m q by rw [List.take_zero, List.nil_append, Nat.zero_add, List.drop_of_length_le (by omega), List.append_nil]] at HCALL
        have HB0 := Lib.hid hbw
        have hpl := Fi.flt_length k l m q
        rw [HLN.out] at hpl
        have HPL := Lib.hid hpl
        clear HX hbw hbF hF hpl
        have d5 : decide ((k : Int) < 5) = true := by simp; omega
        go_wp2_with fail
        refine HCALL.out.mono ?_
        rintro e w2 ⟨rfl, hbk2, hc2⟩
        have hb2 := HB0.out.trans (hc2.below (B := w.heap.size) HB0.out.size (fun k hk => by omega))
        have hbs := hbk2.bs 0 n n (by rw [HPL.out]; omega) (Nat.le_refl _) (by omega)
        rw [List.drop_zero, List.take_of_length_le (by rw [HPL.out]; exact Nat.le_refl _)] at hbs
        have HW := Lib.hid (weight_any _ _ _ _ _ hbs (by omega))
        have HX2 : Hid (Below w.heap.size w w2 ∧ ∃ F, F.length = n ∧ Bk w2 w.heap.size F) := Lib.hid ⟨hb2, _, HPL.out, hbk2⟩
        have HY := Lib.hid (fun h1 h2 => HLT.out.yes h1 h2)
        have HN := Lib.hid (fun h1 h2 => HLT.out.no h1 h2)
        have hF1 : k = 0 → Fi.Lt l m q (k + 1) k (Fi.weight (Fi.flt (k : Nat) l m q)) := fun e => by subst e; exact Fi.Lt.first l m q
        have HF1 := Lib.hid hF1
        clear hbk2 hc2 hb2 hbs HCALL HB0 HPL HLT hF1
        generalize Fi.weight (Fi.flt (k : Nat) l m q) = t at *
        go_wp2_with fail
        refine HW.out.mono ?_
        rintro e w' ⟨rfl, rfl⟩
        clear HW
        by_cases hk0 : k = 0
        · have HZ := Lib.hid (HF1.out hk0)
          have d0 : ((k : Int) == 0) = true := by rw [hk0]; rfl
          clear hk0 HF1 HY HN
          go_wp2
          go_roundw
          case rel => exact ⟨k + 1, k, t, by omega, by go_num, rfl, rfl, HZ, HX2⟩
          case measure => simp [intOf]; omega
        · have d0 : ((k : Int) == 0) = false := by simp; omega
          by_cases hts : t < s
          · have HZ := Lib.hid (HY.out (by omega) hts)
            have d1 : decide (t < s) = true := by simpa using hts
            clear hk0 hts HF1 HY HN
            go_wp2
            go_roundw
            case rel => exact ⟨k + 1, k, t, by omega, by go_num, rfl, rfl, HZ, HX2⟩
            case measure => simp [intOf]; omega
          · have HZ := Lib.hid (HN.out (by omega) hts)
            have d1 : decide (t < s) = false := by simpa using hts
            clear hk0 hts HF1 HY HN
            go_wp2
            go_roundw
            case rel => exact ⟨k + 1, b, s, by omega, by go_num, rfl, rfl, HZ, HX2⟩
            case measure => simp [intOf]; omega
      · have hk6 : k = 5 := by omega
        have d5 : decide ((k : Int) < 5) = false := by simp; omega
        have hz := (HLT.out.pos (by omega)).1
        rw [hk6] at hz
        have HZ := Lib.hid (show b = Fi.light l m q from hz)
        clear hz hk5 hk6
        go_wp2
        go_ret2
        exact ⟨HX.out.1, .inl ⟨rfl, by rw [← HZ.out]; rfl⟩⟩
end Go.Proofs.YtbgaaocgdjkkeaaDoor
