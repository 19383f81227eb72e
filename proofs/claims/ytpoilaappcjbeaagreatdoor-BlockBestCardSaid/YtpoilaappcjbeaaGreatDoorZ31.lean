/- burnishref10.Fits: its contract: what the code's own fit tells. (*Writer).Align: its contract. block's pen: stored: its contract. block.Write of kind 0: its contract. block.Write where the block isn't valid or there is no writer in low order: its contract. (*Writer).Len: its contract. burnishnum.Is: its contract. A region that draws its order, taken by hand: what reads under S first, then one step behind the other. A region that draws its order, taken by hand: an operation that its guard passes over. -/
import Derived.Test.YtpoilaappcjbeaaGreatDoorZ30
import Derived.Deep.QuietTactic
import Derived.BigQuiet
import Derived.Deep.RegionHeld3
set_option linter.unusedSimpArgs false
set_option linter.unusedVariables false
section
namespace Go.Proofs.YtpoilaappcjbeaaGreatDoor
open Go.RowKit

namespace Bc
theorem rf_row {W W' : World} {g : Nat} {o : Obj} (h : W.heap[g]? = some o) (hb : Below W.heap.size W W') : W'.heap[g]? = some o := (hb.block g (Array.getElem?_eq_some_iff.1 h).1).trans h
set_option maxRecDepth 100000 in
set_option maxHeartbeats 8000000 in
theorem refFits_any (a : Option Addr) (len cap : Nat) (ts : List Tok) (xa : Option Addr) (xn xc : Nat) (tx : List UInt8) (w : World) (h : Ts2 w a len cap ts) (hb : Bs w xa xn xc tx) (hlen : len ≤ 1000000) (hxn : xn ≤ 140737488355328) :
    Calls Tryz.prog 19 #[.slice a len cap, .slice xa xn xc] w fun e w' => e = .returned (.bool (fit tx ts 0)) ∧ Below w.heap.size w w' := by
  have H := Lib.hid h
  have HX := Lib.hid hb
  have HLN := Lib.hid h.hlen
  have HXN := Lib.hid hb.hlen
  have hxle := hb.hle
  clear h hb
  go_enter Tryz.func19, Tryz.ntmps19
  go_wp2
  go_loopw [5, 6, 7, 8, 9] (fun at' i _ _ _ wr => ∃ k p : Nat, k ≤ len ∧ p ≤ xn ∧ i = .int .i64 (k : Nat) ∧ at' = .int .i64 (p : Nat) ∧ Hid (fit tx ts 0 = fit tx (ts.drop k) p) ∧ Hid (Below w.heap.size w wr)) (fun _ i _ _ _ _ => len - (intOf i).toNat)
  case atStart => exact ⟨0, 0, by omega, by omega, rfl, rfl, Lib.hid (by rw [List.drop_zero]), Lib.hid (Below.refl _ _)⟩
  case round =>
    obtain ⟨k, p, hk, hp, rfl, rfl, HF, HB⟩ := hrel
    by_cases hlt : k < len
    rotate_left
    · obtain rfl : k = len := by omega
      have HE : Hid (fit tx ts 0 = decide (p = xn)) := Lib.hid (by rw [HF.out, fit_end (by rw [HLN.out]; exact Nat.le_refl _), HXN.out])
      by_cases he : p = xn
      · have d1 : ((p : Int) == (xn : Int)) = true := by simp; omega
        have HE2 : Hid (fit tx ts 0 = true) := Lib.hid (by rw [HE.out]; simpa using he)
        clear HF HE he
        go_wp2
        go_ret
        exact ⟨by rw [HE2.out]; rfl, HB.out⟩
      · have d1 : ((p : Int) == (xn : Int)) = false := by simp; omega
        have HE2 : Hid (fit tx ts 0 = false) := Lib.hid (by rw [HE.out]; simpa using he)
        clear HF HE he
        go_wp2
        go_ret
        exact ⟨by rw [HE2.out]; rfl, HB.out⟩
    obtain ⟨b, off, rfl, _, t0, t1⟩ := (H.out.mono HB.out).at' k hlt
    have hwf := H.out.wf k hlt
    have HFA := Lib.hid (fit_at (tx := tx) (ts := ts) (k := k) (a := p) (by rw [HLN.out]; exact hlt))
    generalize ts.getD k (0, 0) = t at *
    obtain ⟨x, y⟩ := t
    simp only at t0 t1 hwf
    have HWF := Lib.hid hwf
    have hb5 := below_alloc wr (.cells #[.int .i64 x, .int .i64 y] 59)
    have HB5 := Lib.hid (below_then HB.out hb5)
    have HR5 := Lib.hid (heap_alloc_last wr (.cells #[.int .i64 x, .int .i64 y] 59))
    clear hwf hb5
    go_wp2_with fail
    refine (refGood06_any (x, y) _ HWF.out).mono ?_
    rintro e w6 ⟨rfl, hb6⟩
    have HB6 := Lib.hid (below_then HB5.out hb6)
    have HR6 := Lib.hid (rf_row HR5.out hb6)
    clear hb6 HB5 HR5 HB t0 t1
    obtain ⟨c0, c1⟩ : w6.cell? ⟨wr.heap.size, 0, none⟩ = some (.int .i64 x) ∧ w6.cell? ⟨wr.heap.size, 1, none⟩ = some (.int .i64 y) := ⟨(cell_of_row _ _ _ _ _ (0, 0) HR6.out).trans rfl, (cell_of_row _ _ _ _ _ (0, 0) HR6.out).trans rfl⟩
    generalize wr.heap.size = g7 at *
    cases hc : Tk.isTok (x, y) with
    | false =>
      have HE2 : Hid (fit tx ts 0 = false) := Lib.hid (by rw [HF.out, HFA.out, hc]; rfl)
      clear HF HFA hc
      go_wp2
      go_ret
      exact ⟨by rw [HE2.out]; rfl, HB6.out⟩
    | true =>
    have htr := Tk.tok_range hc
    simp only at htr
    by_cases hx0 : x = 0
    · subst hx0
      have hy := htr.2.2.2.2.1 rfl
      obtain ⟨yn, rfl⟩ := Int.eq_ofNat_of_zero_le htr.2.2.1
      have HS : Hid (Tk.size ((0 : Int), (yn : Int)) = 1) := Lib.hid rfl
      have HAG : Hid (agB tx ((0 : Int), (yn : Int)) p 1 = decide ((gb tx p : Int) = (yn : Int))) := Lib.hid rfl
      by_cases hfits : p + 1 ≤ xn
      rotate_left
      · have d1 : decide ((xn : Int) < ((p + 1 : Nat) : Int)) = true := by simp; omega
        have HE2 : Hid (fit tx ts 0 = false) := Lib.hid (by rw [HF.out, HFA.out, HS.out, HXN.out, decide_eq_false hfits]; simp)
        clear HF HFA HS HAG hc htr
        go_wp2
        go_ret
        exact ⟨by rw [HE2.out]; rfl, HB6.out⟩
      have d1 : decide ((xn : Int) < ((p + 1 : Nat) : Int)) = false := by simp; omega
      have HN : Hid (fit tx (ts.drop k) p = (decide ((gb tx p : Int) = (yn : Int)) && fit tx (ts.drop (k + 1)) (p + 1))) := Lib.hid (by rw [HFA.out, hc, HS.out, HXN.out, decide_eq_true hfits, HAG.out]; simp)
      have hg := gb_lt tx p
      have kz : IntKind.i64.wrap ((gb tx p : Nat) : Int) = (gb tx p : Nat) := IntWalk.i64_in _ ⟨by omega, by omega⟩
      clear HFA HS HAG hc htr
      obtain ⟨b2, o2, rfl, hb2, tc⟩ := (HX.out.mono HB6.out).at' p (by omega)
      by_cases hz : gb tx p = yn
      · have HE2 : Hid (fit tx ts 0 = fit tx (ts.drop (k + 1)) (p + 1)) := Lib.hid (by rw [HF.out, HN.out, hz]; simp)
        have d2 : (((gb tx p : Nat) : Int) != (yn : Int)) = false := by simp [hz]
        have HBN : Hid (∀ W, Below w6.heap.size w6 W → Below w.heap.size w W) := Lib.hid (fun W hb => HB6.out.trans (hb.mono HB6.out.size))
        clear HF HN hz
        generalize gb tx p = z at *
        go_wp2
        go_loopw [9] (fun j wq => ∃ q : Nat, p ≤ q ∧ q ≤ p + 1 ∧ j = .int .i64 (q : Nat) ∧ Hid (Below w6.heap.size w6 wq)) (fun j _ => p + 1 - (intOf j).toNat)
        case atStart => exact ⟨p, by omega, by omega, rfl, Lib.hid (Below.refl _ _)⟩
        case round =>
          obtain ⟨q, hq1, hq2, rfl, HQ⟩ := hrel
          by_cases hql : q < p + 1
          · obtain rfl : q = p := by omega
            have s0 := (HQ.out.cell (p := ⟨g7, 0, none⟩) (block_lt_of_cell c0)).trans c0
            have s1 := (HQ.out.cell (p := ⟨g7, 1, none⟩) (block_lt_of_cell c1)).trans c1
            have s2 := (HQ.out.cell (p := ⟨b2, o2 + q, none⟩) hb2).trans tc
            have HQN : Hid (∀ n, Below w6.heap.size w6 (wr.drewN n)) := Lib.hid (fun n => HQ.out.trans ((drewN_is wr n).mono HQ.out.size))
            have dq : decide ((q : Int) < ((q + 1 : Nat) : Int)) = true := by simp; omega
            go_wp2_with fail
            go_quiet (fail)
            go_wp2_with fail
            go_quiet (fail)
            go_wp2
            go_roundw
            case rel => exact ⟨q + 1, by omega, by omega, by go_num, Lib.hid (HQN.out _)⟩
            case measure => simp [intOf]
          · obtain rfl : q = p + 1 := by omega
            have dq : decide (((p + 1 : Nat) : Int) < ((p + 1 : Nat) : Int)) = false := by simp
            go_wp2
            go_roundw
            case rel => exact ⟨k + 1, p + 1, by omega, by omega, by go_num, by go_num, HE2, Lib.hid (HBN.out _ HQ.out)⟩
            case measure => simp [intOf]; omega
      · have HE2 : Hid (fit tx ts 0 = false) := Lib.hid (by
          have : decide ((gb tx p : Int) = (yn : Int)) = false := by simp; omega
          rw [HF.out, HN.out, this]; rfl)
        have d2 : (((gb tx p : Nat) : Int) != (yn : Int)) = true := by simp; omega
        have HBN : Hid (∀ W, Below w6.heap.size w6 W → Below w.heap.size w W) := Lib.hid (fun W hb => HB6.out.trans (hb.mono HB6.out.size))
        clear HF HN hz
        generalize gb tx p = z at *
        go_wp2
        go_loopw [9] (fun j wq => j = .int .i64 (p : Nat) ∧ wq = w6) (fun j _ => p + 1 - (intOf j).toNat)
        case atStart => exact ⟨rfl, rfl⟩
        case round =>
          obtain ⟨rfl, rfl⟩ := hrel
          have dq : decide ((p : Int) < ((p + 1 : Nat) : Int)) = true := by simp; omega
          have HQN : Hid (∀ n, Below wr.heap.size wr (wr.drewN n)) := Lib.hid (fun n => drewN_is wr n)
          go_wp2_with fail
          go_quiet (fail)
          go_wp2
          go_ret
          exact ⟨by rw [HE2.out]; rfl, HBN.out _ (HQN.out _)⟩
    · have hxy := htr.2.2.2.2.2 hx0
      obtain ⟨n, rfl⟩ := Int.eq_ofNat_of_zero_le htr.1
      obtain ⟨d, rfl⟩ := Int.eq_ofNat_of_zero_le htr.2.2.1
      have hn3 : 3 ≤ n := by omega
      have hn258 : n ≤ 258 := by omega
      have hd1 : 1 ≤ d := by omega
      have hd2 : d ≤ 32768 := by omega
      have HS : Hid (Tk.size ((n : Int), (d : Int)) = n) := Lib.hid (by unfold Tk.size; rw [if_neg hx0]; simp)
      have HAG : Hid (agB tx ((n : Int), (d : Int)) p n = decide (∀ k, k < n → d ≤ p + k → gb tx (p + k) = gb tx (p + k - d))) := Lib.hid (by unfold agB; rw [if_neg hx0]; simp)
      have d0 : (((n : Nat) : Int) == 0) = false := by simp; omega
      have d00 : decide (0 < n) = true := by simp; omega
      by_cases hfits : p + n ≤ xn
      rotate_left
      · have d1 : decide ((xn : Int) < (p : Int) + (n : Int)) = true := by simp; omega
        have HE2 : Hid (fit tx ts 0 = false) := Lib.hid (by rw [HF.out, HFA.out, HS.out, HXN.out, decide_eq_false hfits]; simp)
        clear HF HFA HS HAG hc htr hxy
        go_wp2
        go_ret
        exact ⟨by rw [HE2.out]; rfl, HB6.out⟩
      have d1 : decide ((xn : Int) < (p : Int) + (n : Int)) = false := by simp; omega
      have HN : Hid (fit tx (ts.drop k) p = (decide (∀ k, k < n → d ≤ p + k → gb tx (p + k) = gb tx (p + k - d)) && fit tx (ts.drop (k + 1)) (p + n))) := Lib.hid (by rw [HFA.out, hc, HS.out, HXN.out, decide_eq_true hfits, HAG.out]; simp)
      have HBN : Hid (∀ W, Below w6.heap.size w6 W → Below w.heap.size w W) := Lib.hid (fun W hb => HB6.out.trans (hb.mono HB6.out.size))
      have HX6 := Lib.hid (HX.out.mono HB6.out)
      clear HFA HS HAG hc htr hxy hx0
      go_wp2
      go_loopw [9] (fun j wq => ∃ q : Nat, p ≤ q ∧ q ≤ p + n ∧ j = .int .i64 (q : Nat) ∧ Hid (∀ i, i < q - p → d ≤ p + i → gb tx (p + i) = gb tx (p + i - d)) ∧ Hid (Below w6.heap.size w6 wq)) (fun j _ => p + n - (intOf j).toNat)
      case atStart => exact ⟨p, by omega, by omega, rfl, Lib.hid (fun i hi => by omega), Lib.hid (Below.refl _ _)⟩
      case round =>
        obtain ⟨q, hq1, hq2, rfl, HA, HQ⟩ := hrel
        by_cases hql : q < p + n
        rotate_left
        · obtain rfl : q = p + n := by omega
          have HE2 : Hid (fit tx ts 0 = fit tx (ts.drop (k + 1)) (p + n)) := Lib.hid (by
            have : decide (∀ k, k < n → d ≤ p + k → gb tx (p + k) = gb tx (p + k - d)) = true := decide_eq_true (fun i hi => HA.out i (by omega))
            rw [HF.out, HN.out, this]; rfl)
          have dq : decide (((p + n : Nat) : Int) < (p : Int) + (n : Int)) = false := by simp
          clear HA HF HN
          go_wp2
          go_roundw
          case rel => exact ⟨k + 1, p + n, by omega, by omega, by go_num, by go_num, HE2, Lib.hid (HBN.out _ HQ.out)⟩
          case measure => simp [intOf]; omega
        have dq : decide ((q : Int) < (p : Int) + (n : Int)) = true := by simp; omega
        have s0 := (HQ.out.cell (p := ⟨g7, 0, none⟩) (block_lt_of_cell c0)).trans c0
        have s1 := (HQ.out.cell (p := ⟨g7, 1, none⟩) (block_lt_of_cell c1)).trans c1
        have HQN : Hid (∀ m, Below w6.heap.size w6 (wr.drewN m)) := Lib.hid (fun m => HQ.out.trans ((drewN_is wr m).mono HQ.out.size))
        have HQN2 : Hid (∀ m n, Below w6.heap.size w6 ((wr.drewN m).drewN n)) := Lib.hid (fun m n => (HQN.out m).trans ((drewN_is _ n).mono (HQN.out m).size))
        by_cases hdq : d ≤ q
        · obtain ⟨b2, o2, rfl, hb2, tc⟩ := HX6.out.at' q (by omega)
          obtain ⟨b3, o3, e3, hb3, td⟩ := HX6.out.at' (q - d) (by omega)
          simp only [Option.some.injEq, Addr.mk.injEq, and_true] at e3
          obtain ⟨rfl, rfl⟩ := e3
          have s2 := (HQ.out.cell (p := ⟨b2, o2 + q, none⟩) hb2).trans tc
          have s3 := (HQ.out.cell (p := ⟨b2, o2 + (q - d), none⟩) hb3).trans td
          have e6 : wrap64 ((q : Int) - (d : Int)) = ((q - d : Nat) : Int) := by rw [IntWalk.wrap64_in _ ⟨by omega, by omega⟩]; omega
          have e7 : IntKind.i64.wrap ((q : Int) - (d : Int)) = ((q - d : Nat) : Int) := by rw [IntWalk.i64_in _ ⟨by omega, by omega⟩]; omega
          have d6 : decide (0 ≤ ((q - d : Nat) : Int)) = true := by simp
          have HZ : Hid (gb tx q = gb tx (q - d) → ∀ i, i < q + 1 - p → d ≤ p + i → gb tx (p + i) = gb tx (p + i - d)) := Lib.hid (fun h i hi hd => by
            by_cases hi2 : i < q - p
            · exact HA.out i hi2 hd
            · have : p + i = q := by omega
              rw [this]; exact h)
          have HY : Hid (gb tx q ≠ gb tx (q - d) → fit tx ts 0 = false) := Lib.hid (fun h => by
            have : decide (∀ k, k < n → d ≤ p + k → gb tx (p + k) = gb tx (p + k - d)) = false := decide_eq_false (fun hh => h (by have := hh (q - p) (by omega) (by omega); rwa [show p + (q - p) = q by omega] at this))
            rw [HF.out, HN.out, this]; rfl)
          obtain ⟨v, hv⟩ : ∃ v, q - d = v := ⟨_, rfl⟩
          rw [hv] at s3 e6 e7 d6 HZ HY td
          have HV := Lib.hid hv
          clear hv tc td HA
          by_cases he : gb tx q = gb tx v
          · have HZ2 := Lib.hid (HZ.out he)
            have d7 : (((gb tx q : Nat) : Int) != ((gb tx v : Nat) : Int)) = false := by simp [he]
            have hqx : q < xn := by omega
            have hvx : v < xn := by have := HV.out; omega
            clear HZ HY he
            generalize gb tx q = z1 at *
            generalize gb tx v = z2 at *
            go_wp2_with fail
            go_quiet (fail)
            go_wp2_with fail
            go_quiet (fail)
            go_wp2
            go_roundw
            case rel => exact ⟨q + 1, by omega, by omega, by go_num, HZ2, Lib.hid (HQN.out _)⟩
            case measure => simp [intOf]; omega
          · have HE2 := Lib.hid (HY.out he)
            have d7 : (((gb tx q : Nat) : Int) != ((gb tx v : Nat) : Int)) = true := by simp; omega
            have hqx : q < xn := by omega
            have hvx : v < xn := by have := HV.out; omega
            clear HZ HY he
            generalize gb tx q = z1 at *
            generalize gb tx v = z2 at *
            go_wp2_with fail
            go_quiet (fail)
            go_wp2_with fail
            go_quiet (fail)
            go_wp2
            go_ret
            exact ⟨by rw [HE2.out]; rfl, HBN.out _ (HQN2.out _ _)⟩
        · have e6 : wrap64 ((q : Int) - (d : Int)) = (q : Int) - (d : Int) := IntWalk.wrap64_in _ ⟨by omega, by omega⟩
          have e7 : IntKind.i64.wrap ((q : Int) - (d : Int)) = (q : Int) - (d : Int) := IntWalk.i64_in _ ⟨by omega, by omega⟩
          have d6 : decide (0 ≤ (q : Int) - (d : Int)) = false := by simp; omega
          have d61 : decide (d ≤ q) = false := decide_eq_false hdq
          have d62 : decide ((d : Int) ≤ (q : Int)) = false := by simp; omega
          have HZ2 : Hid (∀ i, i < q + 1 - p → d ≤ p + i → gb tx (p + i) = gb tx (p + i - d)) := Lib.hid (fun i hi hd => by
            by_cases hi2 : i < q - p
            · exact HA.out i hi2 hd
            · omega)
          clear HA hdq
          go_wp2_with fail
          go_quiet (fail)
          go_wp2_with fail
          go_quiet (fail)
          go_wp2
          go_roundw
          case rel => exact ⟨q + 1, by omega, by omega, by go_num, HZ2, Lib.hid (HQN.out _)⟩
          case measure => simp [intOf]; omega
end Bc
end Go.Proofs.YtpoilaappcjbeaaGreatDoor
end

section
namespace Go.Proofs.YtpoilaappcjbeaaGreatDoor
open Go.RowKit

def AlignPost (w : World) (B g : Nat) (h : Bool) (v : Value) (l : List Bool) (e : Ending) (w' : World) : Prop :=
  e = .returned (.tuple #[]) ∧ ∃ v', Wr w' B g h v' (l ++ List.replicate ((8 - l.length % 8) % 8) h) ∧ Ch w w' (Wt g v) ∧ ∀ k, v'.ownBlock = some k → v.ownBlock = some k ∨ w.heap.size ≤ k
theorem align_any (w : World) (B g : Nat) (h : Bool) (v : Value) (l : List Bool) (H : Wr w B g h v l) (hB : B ≤ w.heap.size) (hl : l.length ≤ 1000000000000) :
    Calls Tryz.prog 58 #[.pointer (some ⟨g, 0, none⟩)] w (AlignPost w B g h v l) := by
  have k0 := H.c0
  have k2 := H.c2
  have H0 := Lib.hid H
  clear H
  have Hd := Lib.hid (Bt.fi_dg h ((8 - l.length % 8) % 8))
  go_enter Tryz.func58, Tryz.ntmps58
  go_wp2_with fail
  refine (missing_any l.length _ hl).mono ?_
  rintro e w' ⟨rfl, rfl⟩
  obtain ⟨m, hm⟩ : ∃ m, (8 - l.length % 8) % 8 = m := ⟨_, rfl⟩
  have hm8 : m ≤ 7 := by omega
  rw [hm] at Hd ⊢
  have HM := Lib.hid hm
  clear hm
  go_wp2_with fail
  refine (fill_any h m _ hm8).mono ?_
  rintro e w' ⟨rfl, rfl⟩
  have H1 := H0.out.mono (below_alloc w (.cells #[.bool h] 71))
  have hB1 : B ≤ (w.alloc (.cells #[.bool h] 71)).heap.size := by simp; omega
  have hfi : (if h then 2 ^ m - 1 else 0) < 2 ^ m := by
    have := Nat.pow_pos (n := m) (show 0 < 2 by omega); split <;> omega
  have HF := Lib.hid hfi
  clear hfi
  obtain ⟨f, hf⟩ : ∃ f, (if h then 2 ^ m - 1 else 0) = f := ⟨_, rfl⟩
  rw [hf] at Hd HF ⊢
  clear hf
  go_wp2_with fail
  refine (add_any _ B g h v l f m H1 hB1 (by omega) HF.out hl).mono ?_
  rintro e w' ⟨rfl, v', h1, h2, h3⟩
  rw [Hd.out] at h1
  have HX := Lib.hid (show AlignPost w B g h v l (.returned (.tuple #[])) w' from
    ⟨rfl, v', by rw [HM.out]; exact h1, (Ch.of_below (T := Wt g v) (below_alloc w _)).trans h2 (fun n hn => .inl hn), fun k hk => (h3 k hk).elim .inl (fun h => .inr (by simp at h; omega))⟩)
  clear h1 h2 h3 H1
  go_wp2
  go_end0
  exact HX.out
end Go.Proofs.YtpoilaappcjbeaaGreatDoor
end

section
namespace Go.Proofs.YtpoilaappcjbeaaGreatDoor
open Go.RowKit

namespace Bc
theorem i64_xor_nat (a b : Nat) (ha : a < 9223372036854775808) (hb : b < 9223372036854775808) : bits .xor .i64 (a : Int) (b : Int) = ((a ^^^ b : Nat) : Int) := by
  have hx : a ^^^ b < 2 ^ 63 := Nat.xor_lt_two_pow (by omega) (by omega)
  show IntKind.i64.wrap ((BitVec.ofInt 64 (a : Int) ^^^ BitVec.ofInt 64 (b : Int)).toNat : Int) = _
  rw [BitVec.toNat_xor, ofInt_64 a ha, ofInt_64 b hb, i64_wrap_small _ (by omega)]
/-- The bits of a block of kind 0, behind its head. -/
def stB (l : List Bool) (tx : List UInt8) : List Bool :=
  List.replicate ((8 - l.length % 8) % 8) false ++ (Bt.dg false tx.length 16 ++ (Bt.dg false (tx.length ^^^ 65535) 16 ++ tx.flatMap fun x => Bt.dg false x.toNat 8))
/-- What the writer did, told of the pen. -/
theorem pn_of {w w1 : World} {B gp g : Nat} {v v' : Value} {l l' : List Bool} (h : Pn w B gp g v l) (hw : Wr w1 B g false v' l') (hc : Ch w w1 (Wt g v)) (hf : ∀ k, v'.ownBlock = some k → v.ownBlock = some k ∨ w.heap.size ≤ k) : PPost w B gp g v l' (.returned (.tuple #[])) w1 := by
  have hr : w1.heap[gp]? = some (.cells #[.pointer (some ⟨g, 0, none⟩), .nilIface] 77 (0, 0)) := (hc.block gp h.lt (fun e => e.elim h.np h.nv)).trans h.row
  have hv : v'.ownBlock ≠ some gp := fun e => (hf gp e).elim h.nv (fun h1 => by have := h.lt; omega)
  exact ⟨rfl, v', ⟨hr, hw, h.np, hv⟩, hc.wide (U := Pt gp g v) (fun k hk => .inl (.inr hk)), hf⟩
theorem _root_.Go.Proofs.YtpoilaappcjbeaaGreatDoor.Bs.kept0 {w w' : World} {T : Nat → Prop} {a : Option Addr} {len cap : Nat} {l : List UInt8} (h : Bs w a len cap l) (c : Ch w w' T) (hn : 0 < len → ∀ ad, a = some ad → ¬ T ad.block) : Bs w' a len cap l :=
  ⟨h.hlen, h.hle, h.hcap, h.hmax, h.hnil, fun i hi => by
    obtain ⟨b, off, e, hlt, hc⟩ := h.at' i hi
    exact ⟨b, off, e, Nat.lt_of_lt_of_le hlt c.size, by rw [World.cell?_of_block (w := w) (c.block b hlt (hn (by omega) _ e))]; exact hc⟩⟩
theorem gb_toNat (tx : List UInt8) (k : Nat) : (tx.getD k 0).toNat = gb tx k := rfl
set_option maxRecDepth 100000 in
set_option maxHeartbeats 800000 in
theorem pstored_any (w : World) (B gp g : Nat) (v : Value) (l : List Bool) (xa : Option Addr) (xc : Nat) (tx : List UInt8) (hp : Pn w B gp g v l) (hB : B ≤ w.heap.size) (hb : Bs w xa tx.length xc tx) (hD : 0 < tx.length → ∀ ad, xa = some ad → ¬ Pt gp g v ad.block) (hx : tx.length < 2 ^ 16) (hl : l.length ≤ 800000000000) :
    Calls Tryz.prog 35 #[.pointer (some ⟨gp, 0, none⟩), .slice xa tx.length xc] w (PPost w B gp g v (l ++ stB l tx)) := by
  have HK : Hid (∀ w', Ch w w' (Pt gp g v) → Bs w' xa tx.length xc tx) := Lib.hid (fun w' c => hb.kept0 c hD)
  have hx2 : tx.length ^^^ 65535 < 2 ^ 16 := Nat.xor_lt_two_pow hx (by decide)
  obtain ⟨X1, hX1⟩ : ∃ X1, X1 = List.replicate ((8 - l.length % 8) % 8) false := ⟨_, rfl⟩
  obtain ⟨X2, hX2⟩ : ∃ X2, X2 = Bt.dg false tx.length 16 := ⟨_, rfl⟩
  obtain ⟨X3, hX3⟩ : ∃ X3, X3 = Bt.dg false (tx.length ^^^ 65535) 16 := ⟨_, rfl⟩
  have HY : Hid (l ++ stB l tx = l ++ X1 ++ X2 ++ X3 ++ fl (fun x => Bt.dg false x.toNat 8) tx tx.length) := Lib.hid (by
    rw [fl_all, hX1, hX2, hX3]; unfold stB; simp only [List.append_assoc])
  have hz : tx.length < 65536 := hx
  have HFL := Lib.hid (fl_le (fun x : UInt8 => Bt.dg false x.toNat 8) tx 0 8 (fun i _ => by simp [Bt.dg_length]))
  have HNX := Lib.hid (fun k (hk : k < tx.length) => fl_next (fun x : UInt8 => Bt.dg false x.toNat 8) tx k 0 hk)
  have HX : Hid ((l ++ X1 ++ X2 ++ X3).length ≤ 800000000100) := Lib.hid (by
    simp only [List.length_append]
    rw [hX1, hX2, hX3, List.length_replicate, Bt.dg_length, Bt.dg_length]; omega)
  have HX1 : Hid (X1.length ≤ 7) := Lib.hid (by rw [hX1, List.length_replicate]; omega)
  have HX2 : Hid (X2.length = 16) := Lib.hid (by rw [hX2, Bt.dg_length])
  have hal := align_any w B g false v l hp.wr hB (by omega)
  unfold AlignPost at hal
  rw [← hX1] at hal
  have HAL := Lib.hid hal
  clear hal
  have HC2 := Lib.hid hX2
  have HC3 := Lib.hid hX3
  have HP := Lib.hid hp
  have HXX := Lib.hid (And.intro hx hx2)
  have HZ := Lib.hid hz
  have hxor : bits .xor .i64 ((tx.length : Nat) : Int) 65535 = ((tx.length ^^^ 65535 : Nat) : Int) := by
    rw [show (65535 : Int) = ((65535 : Nat) : Int) from rfl]
    exact i64_xor_nat tx.length 65535 (by omega) (by omega)
  have c0 := cell_of_row _ _ 0 _ _ (0, 0) hp.row
  simp only [List.getElem?_toArray, List.getElem?_cons_zero, List.getElem?_cons_succ] at c0
  obtain ⟨Y, hY⟩ : ∃ Y, Y = l ++ stB l tx := ⟨_, rfl⟩
  rw [← hY]
  have HYY := Lib.hid hY
  clear hY hX1 hX2 hX3 hp hb hD hx hx2 hz
  generalize (tx.length ^^^ 65535) = m at *
  generalize hn : tx.length = n at *
  have HN := Lib.hid hn
  clear hn
  go_enter Tryz.func35, Tryz.ntmps35
  go_wp2_with fail
  refine HAL.out.mono ?_
  rintro e w1 ⟨rfl, v1', hw1, hc1, hf1⟩
  obtain ⟨_, v1, q1, c1, f1⟩ := pn_of HP.out hw1 hc1 hf1
  have HN2 := Lib.hid (number_any w1 B gp g v1 _ n 16 q1 (Nat.le_trans hB c1.size) (by omega) HXX.out.1 (by have := HX1.out; rw [List.length_append]; omega))
  rw [← HC2.out] at HN2
  have HT1 : Hid (∀ l2 e w2, PPost w1 B gp g v1 l2 e w2 → PPost w B gp g v l2 e w2) := Lib.hid (fun l2 e w2 hp => PPost.trans q1 c1 f1 hp)
  clear q1 c1 f1 hw1 hc1 hf1 HAL c0
  go_wp2_with fail
  refine HN2.out.mono ?_
  rintro e w2 hp2
  have hp3 := HT1.out _ _ _ hp2
  clear hp2
  obtain ⟨rfl, v2, q2, c2, f2⟩ := hp3
  have HN3 := Lib.hid (number_any w2 B gp g v2 _ m 16 q2 (Nat.le_trans hB c2.size) (by omega) HXX.out.2 (by have := HX1.out; rw [List.length_append, List.length_append, HX2.out]; omega))
  rw [← HC3.out] at HN3
  have HT2 : Hid (∀ l2 e w3, PPost w2 B gp g v2 l2 e w3 → PPost w B gp g v l2 e w3) := Lib.hid (fun l2 e w3 hp => PPost.trans q2 c2 f2 hp)
  clear q2 c2 f2 HN2 HT1
  go_wp2_with fail
  refine HN3.out.mono ?_
  rintro e w3 hp3
  have hp4 := HT2.out _ _ _ hp3
  clear hp3
  obtain ⟨rfl, hp5⟩ := hp4
  have HP3 : Hid (PPost w B gp g v (l ++ X1 ++ X2 ++ X3) (.returned (.tuple #[])) w3) := Lib.hid ⟨rfl, hp5⟩
  clear hp5 HN3 HT2 hxor
  generalize l ++ X1 ++ X2 ++ X3 = Z at *
  have hnb : n ≤ 1000000 := by have := HZ.out; omega
  go_wp2_with fail
  go_loopw [22] (fun iv wr => ∃ k : Nat, k ≤ n ∧ iv = .int .i64 k ∧ Hid (PPost w B gp g v (Z ++ fl (fun x => Bt.dg false x.toNat 8) tx k) (.returned (.tuple #[])) wr)) (fun iv _ => n - (intOf iv).toNat)
  case atStart => exact ⟨0, by omega, rfl, by simpa [fl] using HP3⟩
  case round =>
    obtain ⟨k, hk, rfl, HP'⟩ := hrel
    clear HP3
    by_cases hlt : k < n
    · obtain ⟨_, v4, q4, c4, f4⟩ := HP'.out
      obtain ⟨bo, oo, rfl, _, t0⟩ := (HK.out wr c4).at' k hlt
      have hnx := HNX.out k hlt
      have hfo := HFL.out k hk
      have hg := gb_lt tx k
      simp only [gb_toNat] at hnx
      have HNXX := Lib.hid hnx
      generalize gb tx k = z at *
      have HN4 := Lib.hid (number_any wr B gp g v4 _ z 8 q4 (Nat.le_trans hB c4.size) (by omega) (by have : (2 : Nat) ^ 8 = 256 := rfl; omega) (by rw [List.length_append]; have := HX.out; have := HZ.out; omega : (Z ++ fl (fun x => Bt.dg false x.toNat 8) tx k).length ≤ 1000000000000))
      have HT4 : Hid (∀ l2 e w3, PPost wr B gp g v4 l2 e w3 → PPost w B gp g v l2 e w3) := Lib.hid (fun l2 e w3 hp => PPost.trans q4 c4 f4 hp)
      clear q4 c4 f4 HP' hnx hfo
      go_wp2_with fail
      refine HN4.out.mono ?_
      rintro e w5 hp5
      have HP5 : Hid (PPost w B gp g v (Z ++ fl (fun x => Bt.dg false x.toNat 8) tx (k + 1)) e w5) := Lib.hid (by
        have := HT4.out _ _ _ hp5
        rw [HNXX.out, ← List.append_assoc]
        exact this)
      obtain ⟨rfl, _⟩ := hp5
      clear HN4 HT4 HNXX t0
      go_wp2
      go_roundw
      case rel => exact ⟨k + 1, by omega, by go_num, HP5⟩
      case measure => simp [intOf]; omega
    · obtain rfl : n = k := by omega
      go_wp2
      go_end0
      rw [HYY.out, HY.out]
      exact HP'.out
end Bc
end Go.Proofs.YtpoilaappcjbeaaGreatDoor
end

section
namespace Go.Proofs.YtpoilaappcjbeaaGreatDoor
open Go.RowKit

namespace Bc
set_option maxRecDepth 100000 in
set_option maxHeartbeats 1000000 in
theorem write_0 (w : World) (B g : Nat) (v : Value) (l : List Bool) (a : Option Addr) (cap : Nat) (ts : List Tok) (xa : Option Addr) (xc : Nat) (tx : List UInt8) (last : Bool) (hw : Wr w B g false v l) (hB : B ≤ w.heap.size) (h : Ts2 w a ts.length cap ts) (hb : Bs w xa tx.length xc tx) (hlen : ts.length ≤ 1000000)
    (hxa : 0 < tx.length → ∀ ad, xa = some ad → ¬ Wt g v ad.block) (hv : vB 0 ts tx = true) (hx : tx.length < 2 ^ 16) (hl : l.length ≤ 600000000000) :
    Calls Tryz.prog 10 #[.pointer (some ⟨g, 0, none⟩), .agg #[.int .i64 0, .slice a ts.length cap, .slice xa tx.length xc], .bool last] w (WPost w B g v (l ++ headB 0 last ++ stB (l ++ headB 0 last) tx)) := by
  have hal := below_alloc w (.cells #[.int .i64 0, .slice a ts.length cap, .slice xa tx.length xc] 36)
  have hrow := heap_alloc_last w (.cells #[.int .i64 0, .slice a ts.length cap, .slice xa tx.length xc] 36)
  have HV := Lib.hid (isValid_any 0 a ts.length cap ts xa tx.length xc tx _ (h.mono hal) (hb.mono hal) (by omega))
  have HVB := Lib.hid hv
  have HX := Lib.hid hx
  have HBS := Lib.hid (fun w' (hb' : Below w.heap.size w w') => hb.mono hb')
  have HW := Lib.hid (fun w' (hb' : Below w.heap.size w w') => hw.mono hb')
  have HTA : Hid (∀ k, (0 < tx.length ∧ ∃ ad, xa = some ad ∧ k = ad.block) → k < w.heap.size ∧ ¬ Wt g v k) := Lib.hid (fun k hk => by
    obtain ⟨hn, ad, e, rfl⟩ := hk
    refine ⟨?_, hxa hn ad e⟩
    obtain ⟨b, off, e1, hlt, _⟩ := hb.at' 0 hn
    rw [e1] at e
    obtain rfl := Option.some.inj e
    exact hlt)
  have HLT : Hid (∀ k, Wt g v k → k < w.heap.size) := Lib.hid (fun k hk => by
    rcases hk with rfl | hk
    · exact hw.lt
    · exact (hw.own.lt k hk).2)
  have HB := Lib.hid hB
  have HL := Lib.hid hl
  have HAL := Lib.hid hal
  have HRW := Lib.hid hrow
  have c0 := cell_of_row _ _ 0 _ _ (0, 0) hrow
  have c1 := cell_of_row _ _ 1 _ _ (0, 0) hrow
  have c2 := cell_of_row _ _ 2 _ _ (0, 0) hrow
  simp only [List.getElem?_toArray, List.getElem?_cons_zero, List.getElem?_cons_succ] at c0 c1 c2
  clear hal hrow h hb hxa hv hw hB hl hlen hx
  obtain ⟨Y, hY⟩ : ∃ Y, Y = l ++ headB 0 last ++ stB (l ++ headB 0 last) tx := ⟨_, rfl⟩
  rw [← hY]
  have HY := Lib.hid hY
  clear hY
  go_enter Tryz.func10, Tryz.ntmps10
  go_wp2_with fail
  refine HV.out.mono ?_
  rintro e w2 ⟨rfl, hb2⟩
  rw [HVB.out]
  have HB2 := Lib.hid (below_then HAL.out hb2)
  have HH := Lib.hid (high_any w2 B g false v l (HW.out _ HB2.out))
  have hr2 := (hb2.block w.heap.size (by simp)).trans HRW.out
  have HQ2 : Hid (w.heap.size < w2.heap.size) := Lib.hid (by have := hb2.size; simp at this; omega)
  clear hb2 HV HVB HAL HRW c0 c1 c2
  go_wp2_with fail
  refine HH.out.mono ?_
  rintro e w' ⟨rfl, rfl⟩
  have hal3 := below_alloc w2 (.cells #[.pointer (some ⟨g, 0, none⟩), .nilIface] 77)
  have hrow3 := heap_alloc_last w2 (.cells #[.pointer (some ⟨g, 0, none⟩), .nilIface] 77)
  have hb3 := below_then HB2.out hal3
  have hp3 : Pn (w2.alloc (.cells #[.pointer (some ⟨g, 0, none⟩), .nilIface] 77)) B w2.heap.size g v l := ⟨hrow3, HW.out _ hb3, fun e => by have := HLT.out g (.inl rfl); have := HQ2.out; omega, fun e => by have := HLT.out _ (.inr e); have := HQ2.out; omega⟩
  have hr3 := (hal3.block w.heap.size HQ2.out).trans hr2
  have HB3 := Lib.hid hb3
  have hhd := head_any _ B w2.heap.size g v l 0 last hp3 (Nat.le_trans HB.out hb3.size) (by omega) (by have := HL.out; omega)
  rw [show (((0 : Nat)) : Int) = 0 from rfl] at hhd
  have HHD := Lib.hid hhd
  have HGP : Hid (w.heap.size ≤ w2.heap.size) := Lib.hid (by have := HQ2.out; omega)
  have HHL : Hid ((l ++ headB 0 last).length ≤ 700000000000) := Lib.hid (by
    have := HL.out
    unfold headB
    rw [List.length_append, List.length_append, Bt.dg_length, Bt.dg_length]; omega)
  have HK : Hid (∀ w6 e l6, PPost (w2.alloc (.cells #[.pointer (some ⟨g, 0, none⟩), .nilIface] 77)) B w2.heap.size g v l6 e w6 → w6.heap[w.heap.size]? = some (.cells #[.int .i64 0, .slice a ts.length cap, .slice xa tx.length xc] 36 (0, 0))) := Lib.hid (fun w6 e l6 h6 => by
    obtain ⟨_, _, _, c6, _⟩ := h6
    refine (c6.block w.heap.size (by have := HQ2.out; simp; omega) (fun e => ?_)).trans hr3
    rcases e with e | e
    · have := HQ2.out; omega
    · have := HLT.out _ e; omega)
  have HST : Hid (∀ w6 e l6, l6.length ≤ 800000000000 → PPost (w2.alloc (.cells #[.pointer (some ⟨g, 0, none⟩), .nilIface] 77)) B w2.heap.size g v l6 e w6 → Calls Tryz.prog 35 #[.pointer (some ⟨w2.heap.size, 0, none⟩), .slice xa tx.length xc] w6 (PPost (w2.alloc (.cells #[.pointer (some ⟨g, 0, none⟩), .nilIface] 77)) B w2.heap.size g v (l6 ++ stB l6 tx))) := Lib.hid (fun w6 e l6 hl6 h6 => by
    obtain ⟨_, v6, p6, c6, f6⟩ := h6
    have hnp : ∀ k, (0 < tx.length ∧ ∃ ad, xa = some ad ∧ k = ad.block) → ¬ Pt w2.heap.size g v k := fun k hk e => by
      have h1 := HTA.out k hk
      rcases e with e | e
      · have := HQ2.out; omega
      · exact h1.2 e
    have hbs := (HBS.out _ HB3.out).kept0 c6 (fun hn ad e => hnp _ ⟨hn, ad, e, rfl⟩)
    refine (pstored_any w6 B w2.heap.size g v6 l6 xa xc tx p6 (Nat.le_trans (Nat.le_trans HB.out HB3.out.size) c6.size) hbs (fun hn ad e hk => ?_) HX.out hl6).mono (fun e7 w7 h7 => PPost.trans p6 c6 f6 h7)
    have h1 := HTA.out ad.block ⟨hn, ad, e, rfl⟩
    have h2 := hnp ad.block ⟨hn, ad, e, rfl⟩
    rcases hk with hk | hk | hk
    · exact h2 (.inl hk)
    · exact h2 (.inr (.inl hk))
    · rcases f6 _ hk with h | h
      · exact h2 (.inr (.inr h))
      · have := HB3.out.size; omega)
  have c0 := cell_of_row _ _ 0 _ _ (0, 0) hr3
  simp only [List.getElem?_toArray, List.getElem?_cons_zero, List.getElem?_cons_succ] at c0
  clear hal3 hrow3 hb3 hp3 hr3 hr2 HH hhd HX HTA HBS
  go_wp2_with fail
  refine HHD.out.mono ?_
  rintro e w6 hp6
  have hk6 := HK.out _ _ _ hp6
  have HSTO := Lib.hid (HST.out w6 e _ (by have := HHL.out; omega) hp6)
  obtain ⟨rfl, _⟩ := hp6
  have y2 := cell_of_row _ _ 2 _ _ (0, 0) hk6
  simp only [List.getElem?_toArray, List.getElem?_cons_zero, List.getElem?_cons_succ] at y2
  clear hk6 HHD HST HK c0
  go_wp2_with fail
  refine HSTO.out.mono ?_
  rintro e w7 hp7
  have HF : Hid (WPost w B g v Y (.returned .nilIface) w7) := Lib.hid (by rw [HY.out]; exact wpost_of HB3.out HGP.out hp7)
  obtain ⟨rfl, v7, p7, _, _⟩ := hp7
  have k1 := cell_of_row _ _ 1 _ _ (0, 0) p7.row
  simp only [List.getElem?_toArray, List.getElem?_cons_zero, List.getElem?_cons_succ] at k1
  clear p7 y2 HSTO HB3
  go_wp2
  go_ret
  exact HF.out
end Bc
end Go.Proofs.YtpoilaappcjbeaaGreatDoor
end

section
namespace Go.Proofs.YtpoilaappcjbeaaGreatDoor
open Go.RowKit

namespace Bc
def NoPost (w : World) (e : Ending) (w' : World) : Prop := e = .returned (.iface 51 (.int .i64 6)) ∧ Below w.heap.size w w'
set_option maxRecDepth 100000 in
set_option maxHeartbeats 1000000 in
theorem write_inv (p : Option Addr) (w : World) (kind : Int) (a : Option Addr) (len cap : Nat) (ts : List Tok) (xa : Option Addr) (xn xc : Nat) (tx : List UInt8) (last : Bool) (h : Ts2 w a len cap ts) (hb : Bs w xa xn xc tx) (hlen : len ≤ 1000000) (hv : vB kind ts tx = false) :
    Calls Tryz.prog 10 #[.pointer p, .agg #[.int .i64 kind, .slice a len cap, .slice xa xn xc], .bool last] w (NoPost w) := by
  have hal := below_alloc w (.cells #[.int .i64 kind, .slice a len cap, .slice xa xn xc] 36)
  have hrow := heap_alloc_last w (.cells #[.int .i64 kind, .slice a len cap, .slice xa xn xc] 36)
  have HV := Lib.hid (isValid_any kind a len cap ts xa xn xc tx _ (h.mono hal) (hb.mono hal) (by omega))
  have HVB := Lib.hid hv
  have HAL := Lib.hid hal
  have c0 := cell_of_row _ _ 0 _ _ (0, 0) hrow
  have c1 := cell_of_row _ _ 1 _ _ (0, 0) hrow
  have c2 := cell_of_row _ _ 2 _ _ (0, 0) hrow
  simp only [List.getElem?_toArray, List.getElem?_cons_zero, List.getElem?_cons_succ] at c0 c1 c2
  clear hal hrow h hb hv hlen
  go_enter Tryz.func10, Tryz.ntmps10
  go_wp2_with fail
  refine HV.out.mono ?_
  rintro e w2 ⟨rfl, hb2⟩
  rw [HVB.out]
  have HB2 := Lib.hid (below_then HAL.out hb2)
  clear hb2 HV HVB HAL c0 c1 c2
  go_wp2
  go_ret
  exact ⟨rfl, HB2.out⟩
set_option maxRecDepth 100000 in
set_option maxHeartbeats 1000000 in
theorem write_nil (w : World) (kind : Int) (a : Option Addr) (len cap : Nat) (ts : List Tok) (xa : Option Addr) (xn xc : Nat) (tx : List UInt8) (last : Bool) (h : Ts2 w a len cap ts) (hb : Bs w xa xn xc tx) (hlen : len ≤ 1000000) :
    Calls Tryz.prog 10 #[.pointer none, .agg #[.int .i64 kind, .slice a len cap, .slice xa xn xc], .bool last] w (NoPost w) := by
  cases hv : vB kind ts tx
  · exact write_inv none w kind a len cap ts xa xn xc tx last h hb hlen hv
  have hal := below_alloc w (.cells #[.int .i64 kind, .slice a len cap, .slice xa xn xc] 36)
  have hrow := heap_alloc_last w (.cells #[.int .i64 kind, .slice a len cap, .slice xa xn xc] 36)
  have HV := Lib.hid (isValid_any kind a len cap ts xa xn xc tx _ (h.mono hal) (hb.mono hal) (by omega))
  have HVB := Lib.hid hv
  have HAL := Lib.hid hal
  have c0 := cell_of_row _ _ 0 _ _ (0, 0) hrow
  have c1 := cell_of_row _ _ 1 _ _ (0, 0) hrow
  have c2 := cell_of_row _ _ 2 _ _ (0, 0) hrow
  simp only [List.getElem?_toArray, List.getElem?_cons_zero, List.getElem?_cons_succ] at c0 c1 c2
  clear hal hrow h hb hv hlen
  go_enter Tryz.func10, Tryz.ntmps10
  go_wp2_with fail
  refine HV.out.mono ?_
  rintro e w2 ⟨rfl, hb2⟩
  rw [HVB.out]
  have HB2 := Lib.hid (below_then HAL.out hb2)
  clear hb2 HV HVB HAL c0 c1 c2
  go_wp2
  go_ret
  exact ⟨rfl, HB2.out⟩
set_option maxRecDepth 100000 in
set_option maxHeartbeats 1000000 in
theorem write_high (w : World) (B g : Nat) (v : Value) (l : List Bool) (kind : Int) (a : Option Addr) (len cap : Nat) (ts : List Tok) (xa : Option Addr) (xn xc : Nat) (tx : List UInt8) (last : Bool) (hw : Wr w B g true v l) (h : Ts2 w a len cap ts) (hb : Bs w xa xn xc tx) (hlen : len ≤ 1000000) :
    Calls Tryz.prog 10 #[.pointer (some ⟨g, 0, none⟩), .agg #[.int .i64 kind, .slice a len cap, .slice xa xn xc], .bool last] w (NoPost w) := by
  cases hv : vB kind ts tx
  · exact write_inv _ w kind a len cap ts xa xn xc tx last h hb hlen hv
  have hal := below_alloc w (.cells #[.int .i64 kind, .slice a len cap, .slice xa xn xc] 36)
  have hrow := heap_alloc_last w (.cells #[.int .i64 kind, .slice a len cap, .slice xa xn xc] 36)
  have HV := Lib.hid (isValid_any kind a len cap ts xa xn xc tx _ (h.mono hal) (hb.mono hal) (by omega))
  have HVB := Lib.hid hv
  have HAL := Lib.hid hal
  have HW := Lib.hid (fun w' (hb' : Below w.heap.size w w') => high_any w' B g true v l (hw.mono hb'))
  have c0 := cell_of_row _ _ 0 _ _ (0, 0) hrow
  have c1 := cell_of_row _ _ 1 _ _ (0, 0) hrow
  have c2 := cell_of_row _ _ 2 _ _ (0, 0) hrow
  simp only [List.getElem?_toArray, List.getElem?_cons_zero, List.getElem?_cons_succ] at c0 c1 c2
  clear hal hrow h hb hv hlen hw
  go_enter Tryz.func10, Tryz.ntmps10
  go_wp2_with fail
  refine HV.out.mono ?_
  rintro e w2 ⟨rfl, hb2⟩
  rw [HVB.out]
  have HB2 := Lib.hid (below_then HAL.out hb2)
  have HH := Lib.hid (HW.out _ HB2.out)
  clear hb2 HV HVB HAL HW c0 c1 c2
  go_wp2_with fail
  refine HH.out.mono ?_
  rintro e w' ⟨rfl, rfl⟩
  clear HH
  go_wp2
  go_ret
  exact ⟨rfl, HB2.out⟩
end Bc
end Go.Proofs.YtpoilaappcjbeaaGreatDoor
end

section
namespace Go.Proofs.YtpoilaappcjbeaaGreatDoor
open Go.RowKit

theorem len_any (w : World) (B g : Nat) (h : Bool) (v : Value) (l : List Bool) (H : Wr w B g h v l) :
    Calls Tryz.prog 12 #[.pointer (some ⟨g, 0, none⟩)] w fun e w' => e = .returned (.int .i64 (l.length : Nat)) ∧ w = w' := by
  have c2 := H.c2
  clear H
  go_enter Tryz.func12, Tryz.ntmps12
  go_wp2
  go_ret
  exact ⟨rfl, rfl⟩
end Go.Proofs.YtpoilaappcjbeaaGreatDoor
end

section
namespace Go.Proofs.YtpoilaappcjbeaaGreatDoor
open Go.RowKit

theorem is_yes (n : Int) (h0 : (n == 0) = false) (w : World) : Calls Tryz.prog 21 #[.iface 51 (.int .i64 n), .int .i64 n] w fun e w' => e = .returned (.bool true) ∧ w = w' := by
  have H0 := Lib.hid h0
  clear h0
  go_enter Tryz.func21, Tryz.ntmps21
  go_wp2_with fail
  refine (num_err n H0.out _).mono ?_
  rintro e w' ⟨rfl, rfl⟩
  go_wp2
  go_ret
  exact ⟨by simp, rfl⟩
end Go.Proofs.YtpoilaappcjbeaaGreatDoor
end

section
namespace Go.Proofs.YtpoilaappcjbeaaGreatDoor
open Go

section
variable {P : Program} {ops : Array Oper} {Q : Exit → Act → World → Prop} {md : Region.Mode} {S : World → Prop}
theorem region_RH {id : Nat} {a : Act} {w : World} (S : World → Prop) (hm : P.follows .mixedOrders = true) (h : wpAnyH P .any ops Q S ops.size (Array.replicate ops.size false) a w.drew) : (Code.region id ops true).wp P Q a w :=
  wp_region_any hm (wpAny_of_held _ _ _ _ h)
/-- Number i is taken first. -/
theorem RH_take {i : Nat} {oi : Oper} {v : Value} {fuel : Nat} {listed : Array Bool} {a : Act} {w : World} (hi : ops[i]? = some oi)
    (hs : Region.noSelect ops = true) (hf : Region.free md ops listed i = true) (hr : (Region.ready md ops listed).contains i = true)
    (hQ : ∀ c a w, Q (.panic c) (a.put oi.dst v) w → Q (.panic c) a w) (hS : S w) (hw : Region.wanted oi (yielded ops a.tmps) = true) (hy : ∀ w, S w → (execOp a.eval oi).run P w = .ok (.value v) w)
    (h : wpAnyH P md ops Q S fuel (listed.setIfInBounds i true) (a.put oi.dst v) w) : wpAnyH P md ops Q S (fuel + 1) listed a w :=
  wpAnyH_take hi hs hf hr hQ (.inl ⟨hw, hy⟩) hS h
/-- One alone may come up. -/
theorem RH_step {i : Nat} {o : Oper} {fuel : Nat} {listed : Array Bool} {a : Act} {w : World} (hr : Region.ready md ops listed = [i]) (ho : ops[i]? = some o)
    (h : ∀ K' : Act → World → Prop, Shut (∀ a w, S w → wpAnyH P md ops Q S fuel (listed.setIfInBounds i true) a w → K' a w) → if Region.wanted o (yielded ops a.tmps) = true then Oper.wp P o a w K' Q else K' (a.put o.dst undef) w) :
    wpAnyH P md ops Q S (fuel + 1) listed a w :=
  wpAnyH_all hr (by simp) (fun j hj => by
    obtain rfl : j = i := by simpa using hj
    exact wpOp_step ho (fun K' hK => h K' (fun a w hS hW => hK a w ⟨hS, hW⟩)))
end
end Go.Proofs.YtpoilaappcjbeaaGreatDoor
end

section
namespace Go.Proofs.YtpoilaappcjbeaaGreatDoor
open Go

section
variable {P : Program} {ops : Array Oper} {Q : Exit → Act → World → Prop} {md : Region.Mode} {S : World → Prop}
/-- Number i is passed over first. -/
theorem RH_skip {i : Nat} {oi : Oper} {fuel : Nat} {listed : Array Bool} {a : Act} {w : World} (hi : ops[i]? = some oi)
    (hs : Region.noSelect ops = true) (hf : Region.free md ops listed i = true) (hr : (Region.ready md ops listed).contains i = true)
    (hQ : ∀ c a w, Q (.panic c) (a.put oi.dst undef) w → Q (.panic c) a w) (hS : S w) (hw : Region.wanted oi (yielded ops a.tmps) = false)
    (h : wpAnyH P md ops Q S fuel (listed.setIfInBounds i true) (a.put oi.dst undef) w) : wpAnyH P md ops Q S (fuel + 1) listed a w :=
  wpAnyH_take hi hs hf hr hQ (.inr ⟨hw, rfl⟩) hS h
/-- One of two may come up. -/
theorem RH_two {i j : Nat} {oi oj : Oper} {fuel : Nat} {listed : Array Bool} {a : Act} {w : World} (hr : Region.ready md ops listed = [i, j]) (ho : ops[i]? = some oi) (hp : ops[j]? = some oj)
    (h : ∀ K' : Act → World → Prop, Shut (∀ a w, S w → wpAnyH P md ops Q S fuel (listed.setIfInBounds i true) a w → K' a w) → if Region.wanted oi (yielded ops a.tmps) = true then Oper.wp P oi a w K' Q else K' (a.put oi.dst undef) w)
    (h' : ∀ K' : Act → World → Prop, Shut (∀ a w, S w → wpAnyH P md ops Q S fuel (listed.setIfInBounds j true) a w → K' a w) → if Region.wanted oj (yielded ops a.tmps) = true then Oper.wp P oj a w K' Q else K' (a.put oj.dst undef) w) :
    wpAnyH P md ops Q S (fuel + 1) listed a w :=
  wpAnyH_all hr (by simp) (fun k hk => by
    have hk' : k = i ∨ k = j := by simpa using hk
    rcases hk' with rfl | rfl
    · exact wpOp_step ho (fun K' hK => h K' (fun a w hS hW => hK a w ⟨hS, hW⟩))
    · exact wpOp_step hp (fun K' hK => h' K' (fun a w hS hW => hK a w ⟨hS, hW⟩)))
end
end Go.Proofs.YtpoilaappcjbeaaGreatDoor
end
