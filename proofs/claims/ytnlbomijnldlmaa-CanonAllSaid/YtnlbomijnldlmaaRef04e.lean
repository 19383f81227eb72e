/- The document's reading of a code: its contract. -/
import Derived.Test.YtnlbomijnldlmaaRef04d
import Derived.Test.YtnlbomijnldlmaaNumInts
namespace Go.Proofs.Ytnlbomijnldlmaa
open Go.RowKit

namespace Cn
/-- Do b and u begin with the same n bits, up to b's end? -/
def same (u : List Bool) (n : Nat) (b : List Bool) : Bool := decide (b.take (min n b.length) = u.take (min n b.length))
def hit (u : List Bool) (n : Nat) (c : Int × List Bool) : Bool := same u n c.2 && decide (c.2.length = n)
def more (u : List Bool) (n : Nat) (c : Int × List Bool) : Bool := same u n c.2 && decide (n < c.2.length)
def rdAt (ks : List (Int × List Bool)) (u : List Bool) : Nat → Nat → Int × Nat × Int
  | 0, _ => (0, 16, 2)
  | f + 1, n => if u.length < n then (0, u.length, 8) else
    match ks.find? (hit u n) with
    | some c => (c.1, n, 0)
    | none => if ks.any (more u n) then rdAt ks u f (n + 1) else (0, n, 2)
/-- The symbol that bits begin with, how many bits are read, and an error's number. -/
def rd (ks : List (Int × List Bool)) (u : List Bool) : Int × Nat × Int := if ks = [] then (0, 0, 2) else rdAt ks u 16 1
theorem rdAt_step (ks : List (Int × List Bool)) (u : List Bool) (m : Nat) (hm : m ≤ 16) : rdAt ks u (17 - m) m = if u.length < m then (0, u.length, 8) else
    match ks.find? (hit u m) with
    | some c => (c.1, m, 0)
    | none => if ks.any (more u m) then rdAt ks u (17 - (m + 1)) (m + 1) else (0, m, 2) := by
  have e1 : 17 - m = (16 - m) + 1 := by omega
  have e2 : 17 - (m + 1) = 16 - m := by omega
  rw [e1, e2]; rfl
theorem same_step (u b : List Bool) (k : Nat) (hb : k < b.length) (hu : k < u.length) : decide (b.take (k + 1) = u.take (k + 1)) = (decide (b.take k = u.take k) && (b.getD k false == u.getD k false)) := by
  have t1 := List.take_succ_eq_append_getElem hb
  have t2 := List.take_succ_eq_append_getElem hu
  have l1 : (b.take k).length = (u.take k).length := by rw [List.length_take, List.length_take]; omega
  have e1 : b.getD k false = b[k] := by simp [List.getD, List.getElem?_eq_getElem hb]
  have e2 : u.getD k false = u[k] := by simp [List.getD, List.getElem?_eq_getElem hu]
  rw [t1, t2, e1, e2, Bool.eq_iff_iff]
  simp only [decide_eq_true_eq, Bool.and_eq_true, beq_iff_eq]
  exact ⟨fun e => ⟨(List.append_inj e l1).1, by have := (List.append_inj e l1).2; simpa only [List.cons.injEq, and_true] using this⟩, fun ⟨h1, h2⟩ => by rw [h1, h2]⟩
end Cn
def Cd.k (c : Cd) : Int × List Bool := (c.s, c.b)
theorem cth_get (cs : List Cd) (i : Nat) (h : i < cs.length) : (cs.map Cd.k)[i]? = some (cth cs i).k := by simp [cth, List.getD, List.getElem?_eq_getElem h]
theorem hit_at (cs : List Cd) (u : List Bool) (m i : Nat) (h : i < cs.length) (hno : ∀ j, j < i → Cn.hit u m (cth cs j).k = false) (hy : Cn.hit u m (cth cs i).k = true) : (cs.map Cd.k).find? (Cn.hit u m) = some (cth cs i).k := by
  rw [List.find?_eq_some_iff_getElem]
  refine ⟨hy, i, by simpa using h, by have := cth_get cs i h; rw [List.getElem?_eq_getElem (by simpa using h)] at this; exact Option.some.inj this, fun j hj => ?_⟩
  have e := cth_get cs j (by omega)
  rw [List.getElem?_eq_getElem (by simp; omega)] at e
  rw [Option.some.inj e, hno j hj]; rfl
theorem hit_none (cs : List Cd) (u : List Bool) (m : Nat) (hno : ∀ j, j < cs.length → Cn.hit u m (cth cs j).k = false) : (cs.map Cd.k).find? (Cn.hit u m) = none := by
  rw [List.find?_eq_none]
  intro x hx
  obtain ⟨j, hj, rfl⟩ := List.getElem_of_mem hx
  have hj' : j < cs.length := by simpa using hj
  have e := cth_get cs j hj'
  rw [List.getElem?_eq_getElem hj] at e
  rw [Option.some.inj e, hno j hj']; simp
def anyK (cs : List Cd) (u : List Bool) (m i : Nat) : Bool := ((cs.take i).map Cd.k).any (Cn.more u m)
theorem anyK_succ (cs : List Cd) (u : List Bool) (m i : Nat) (h : i < cs.length) : anyK cs u m (i + 1) = (anyK cs u m i || Cn.more u m (cth cs i).k) := by
  unfold anyK
  rw [List.take_succ_eq_append_getElem h, List.map_append, List.any_append]
  simp [cth, List.getD, List.getElem?_eq_getElem h]
theorem anyK_all (cs : List Cd) (u : List Bool) (m : Nat) : anyK cs u m cs.length = (cs.map Cd.k).any (Cn.more u m) := by unfold anyK; rw [List.take_length]
set_option maxHeartbeats 4000000 in
set_option maxRecDepth 100000 in
theorem refRead_any (B : Nat) (v : Value) (n : Nat) (cs : List Cd) (a : Option Addr) (len cap : Nat) (u : List Bool) (w : World) (hc : Cds w B v n cs) (h : Is .i64 w a len cap (bi u)) (hlen : len ≤ 1000000) (hn : n ≤ 1000000) (h16 : ∀ i, i < n → (cth cs i).b.length ≤ 16) :
    Calls Try.prog 44 #[v, .slice a len cap] w fun e w' =>
      e = .returned (.tuple #[.int .i64 (Cn.rd (cs.map Cd.k) u).1, .int .i64 (Cn.rd (cs.map Cd.k) u).2.1, .int .i64 (Cn.rd (cs.map Cd.k) u).2.2]) ∧ ∃ n, w' = w.drewN n := by
  obtain ⟨va, vc, rfl, hcells0⟩ := hc.cells
  have HL := Lib.hid h.hlen
  have HC := Lib.hid hc
  have HX0 := Lib.hid hcells0
  have H := Lib.hid h
  have H16 := Lib.hid h16
  have HN := Lib.hid hc.hn
  have hul : u.length = len := by rw [← HL.out, bi_length]
  have HUL := Lib.hid hul
  clear h hc hcells0 h16 hul
  by_cases hn0 : n = 0
  · have hnil : cs = [] := List.eq_nil_of_length_eq_zero (by rw [HN.out]; exact hn0)
    subst hnil
    subst hn0
    go_enter Try.func44, Try.ntmps44
    go_wp2
    go_ret3
    exact ⟨rfl, 0, rfl⟩
  obtain ⟨g, rfl, _, _⟩ := HX0.out 0 (by omega)
  have HX := Lib.hid (show ∀ i, i < n → w.cell? ⟨g, i * 2, none⟩ = some (.int .i64 (cth cs i).s) ∧ w.cell? ⟨g, i * 2 + 1, none⟩ = some (.slice (cth cs i).a (cth cs i).len (cth cs i).cap) from fun i hi => by
    obtain ⟨g', e, h1, h2⟩ := HX0.out i hi
    simp only [Option.some.injEq, Addr.mk.injEq, and_true] at e
    subst e
    exact ⟨h1, h2⟩)
  clear HX0
  have hne : cs.map Cd.k ≠ [] := by
    intro e
    have := HN.out
    rw [List.map_eq_nil_iff.1 e] at this
    exact hn0 this.symm
  have hrd0 : Cn.rd (cs.map Cd.k) u = Cn.rdAt (cs.map Cd.k) u (17 - 1) 1 := by unfold Cn.rd; rw [if_neg hne]
  have HR0 := Lib.hid hrd0
  clear hne hrd0
  have dn0 : ((n : Int) == 0) = false := by simp; omega
  generalize Cn.rd (cs.map Cd.k) u = R at *
  go_enter Try.func44, Try.ntmps44
  go_wp2
  go_loopg [7] 16 (fun gk s7 wr => ∃ m : Nat, 1 ≤ m ∧ m ≤ 17 ∧ gk = 17 - m ∧ s7 = .int .i64 m ∧ (∃ d, wr = w.drewN d) ∧ Hid (R = Cn.rdAt (cs.map Cd.k) u (17 - m) m))
  case atStart => exact ⟨1, by omega, by omega, by omega, rfl, ⟨0, rfl⟩, HR0⟩
  case round =>
    obtain ⟨m, hm1, hm, rfl, rfl, ⟨d0, rfl⟩, HR⟩ := hrel
    by_cases hm16 : m ≤ 16
    · by_cases hend : len < m
      · have hr : R = (0, len, 8) := by rw [HR.out, Cn.rdAt_step _ _ _ hm16, if_pos (by rw [HUL.out]; exact hend), HUL.out]
        clear HR HR0
        subst hr
        go_wp2
        go_ret3
        exact ⟨rfl, _, rfl⟩
      · have hr : R = match (cs.map Cd.k).find? (Cn.hit u m) with
            | some c => (c.1, m, 0)
            | none => if (cs.map Cd.k).any (Cn.more u m) then Cn.rdAt (cs.map Cd.k) u (17 - (m + 1)) (m + 1) else (0, m, 2) := by
          rw [HR.out, Cn.rdAt_step _ _ _ hm16, if_neg (by rw [HUL.out]; exact hend)]
        have HR1 := Lib.hid hr
        clear hr HR HR0
        go_wp2
        generalize Value.bool (decide ((m : Int) ≤ 16)) = tb
        go_loopg [8, 9] n (fun gk s8 s9 wr => ∃ i : Nat, i ≤ n ∧ gk = n - i ∧ s8 = .bool (anyK cs u m i) ∧ s9 = .int .i64 i ∧ (∃ d, wr = w.drewN d) ∧ Hid (∀ j, j < i → Cn.hit u m (cth cs j).k = false))
        case atStart => exact ⟨0, by omega, by omega, rfl, rfl, ⟨_, rfl⟩, Lib.hid (fun j hj => absurd hj (by omega))⟩
        case round =>
          obtain ⟨i, hi, rfl, rfl, rfl, ⟨d1, rfl⟩, HNO⟩ := hrel
          by_cases hin : i < n
          · obtain ⟨c0, c1⟩ := HX.out i hin
            have HE := Lib.hid (HC.out.each i hin)
            have HA := Lib.hid (anyK_succ cs u m i (by rw [HN.out]; exact hin))
            have HH := Lib.hid (hit_at cs u m i (by rw [HN.out]; exact hin) HNO.out)
            have hb16 := H16.out i hin
            have HKS := Lib.hid (show ∀ j, j < i + 1 → ¬ j < i → j = i from fun j h1 h2 => by omega)
            have hlenb : (cth cs i).len = (cth cs i).b.length := by have := HE.out.hlen; rw [bi_length] at this; exact this.symm
            have HLB := Lib.hid hlenb
            rw [← hlenb] at hb16
            have hkk : (cth cs i).k = ((cth cs i).s, (cth cs i).b) := rfl
            rw [hkk] at HA HH
            have HKK := Lib.hid hkk
            clear hlenb hkk
            generalize (cth cs i).s = cS at *
            generalize (cth cs i).a = cA at *
            generalize (cth cs i).len = cL at *
            generalize (cth cs i).cap = cC at *
            generalize (cth cs i).b = cB at *
            go_wp2
            go_loopg [11, 12] (min m cL) (fun gk s11 s12 wr => ∃ k : Nat, k ≤ m ∧ k ≤ cL ∧ gk = min m cL - k ∧ s12 = .int .i64 k ∧ s11 = .bool (decide (cB.take k = u.take k)) ∧ ∃ d, wr = w.drewN d)
            case atStart => exact ⟨0, by omega, by omega, by omega, rfl, by simp, ⟨_, rfl⟩⟩
            case round =>
              obtain ⟨k, hkm, hkl, rfl, rfl, rfl, ⟨d2, rfl⟩⟩ := hrel
              by_cases hkm2 : k < m
              · by_cases hkl2 : k < cL
                · obtain ⟨b1, off1, rfl, _, x1⟩ := HE.out.at' k hkl2
                  obtain ⟨b2, off2, rfl, _, x2⟩ := H.out.at' k (by omega)
                  rw [bi_getD] at x1 x2
                  have HS := Lib.hid (Cn.same_step u cB k (by rw [← HLB.out]; exact hkl2) (by rw [HUL.out]; omega))
                  have hxy : (((cB.getD k false).toNat : Int) == ((u.getD k false).toNat : Int)) = (cB.getD k false == u.getD k false) := by cases cB.getD k false <;> cases u.getD k false <;> rfl
                  rw [← hxy] at HS
                  clear hxy
                  generalize ((cB.getD k false).toNat : Int) = X at *
                  generalize ((u.getD k false).toNat : Int) = Y at *
                  generalize decide (cB.take k = u.take k) = sb at *
                  cases sb
                  · go_wp2
                    go_quiet (fail)
                    go_wp2
                    go_roundg (min m cL - (k + 1))
                    case measure => omega
                    case rel => exact ⟨k + 1, by omega, by omega, rfl, by go_num, by rw [HS.out]; rfl, ⟨_, rfl⟩⟩
                  · go_wp2
                    go_quiet (fail)
                    go_wp2
                    go_roundg (min m cL - (k + 1))
                    case measure => omega
                    case rel => exact ⟨k + 1, by omega, by omega, rfl, by go_num, by rw [HS.out]; rfl, ⟨_, rfl⟩⟩
                · have hke : k = cL := by omega
                  have hmin : min m cL = k := by omega
                  have hS : Cn.same u m cB = decide (cB.take k = u.take k) := by unfold Cn.same; rw [← HLB.out, hmin]
                  have hH : Cn.hit u m (cS, cB) = (decide (cB.take k = u.take k) && decide (cL = m)) := by simp only [Cn.hit]; rw [hS, HLB.out]
                  have hM : Cn.more u m (cS, cB) = (decide (cB.take k = u.take k) && decide (m < cL)) := by simp only [Cn.more]; rw [hS, HLB.out]
                  rw [hM] at HA
                  rw [hH] at HH
                  have HNO2 : Hid ((decide (cB.take k = u.take k) && decide (cL = m)) = false → ∀ j, j < i + 1 → Cn.hit u m (cth cs j).k = false) := Lib.hid (fun hf j hj => by
                    by_cases hji : j < i
                    · exact HNO.out j hji
                    · rw [HKS.out j hj hji, HKK.out, hH, hf])
                  clear hS hH hM hmin HNO HKS
                  generalize decide (cB.take k = u.take k) = sb at *
                  by_cases hit : sb = true ∧ cL = m
                  · obtain ⟨hsb, hcm⟩ := hit
                    subst hsb
                    exfalso; omega
                  · have hno2 := HNO2.out (by
                      cases sb
                      · rfl
                      · rw [Bool.true_and]; exact decide_eq_false (fun e => hit ⟨rfl, e⟩))
                    have HNO3 := Lib.hid hno2
                    have hac := HA.out
                    clear HNO2 HH hno2 HA
                    generalize anyK cs u m i = ab at *
                    cases sb
                    · rw [Bool.false_and, Bool.or_false] at hac
                      have HAC := Lib.hid hac
                      clear hac hit
                      cases ab
                      all_goals
                        go_wp2
                        go_roundg (n - (i + 1))
                        case measure => omega
                        case rel => exact ⟨i + 1, by omega, rfl, congrArg Value.bool HAC.out.symm, by go_num, ⟨_, rfl⟩, HNO3⟩
                    · have hcm : cL ≠ m := fun e => hit ⟨rfl, e⟩
                      have dne : ((cL : Int) == (m : Int)) = false := by simp; omega
                      clear hit
                      cases ab
                      · have hml : ¬ m < cL := by omega
                        have HAC := Lib.hid (show anyK cs u m (i + 1) = false by rw [hac, decide_eq_false hml]; rfl)
                        clear hac
                        go_wp2
                        go_roundg (n - (i + 1))
                        case measure => omega
                        case rel => exact ⟨i + 1, by omega, rfl, congrArg Value.bool HAC.out.symm, by go_num, ⟨_, rfl⟩, HNO3⟩
                      · have HAC := Lib.hid (show anyK cs u m (i + 1) = true by rw [hac]; rfl)
                        clear hac
                        go_wp2
                        go_roundg (n - (i + 1))
                        case measure => omega
                        case rel => exact ⟨i + 1, by omega, rfl, congrArg Value.bool HAC.out.symm, by go_num, ⟨_, rfl⟩, HNO3⟩
              · have hke : k = m := by omega
                have hmin : min m cL = k := by omega
                have hS : Cn.same u m cB = decide (cB.take k = u.take k) := by unfold Cn.same; rw [← HLB.out, hmin]
                have hH : Cn.hit u m (cS, cB) = (decide (cB.take k = u.take k) && decide (cL = m)) := by simp only [Cn.hit]; rw [hS, HLB.out]
                have hM : Cn.more u m (cS, cB) = (decide (cB.take k = u.take k) && decide (m < cL)) := by simp only [Cn.more]; rw [hS, HLB.out]
                rw [hM] at HA
                rw [hH] at HH
                have HNO2 : Hid ((decide (cB.take k = u.take k) && decide (cL = m)) = false → ∀ j, j < i + 1 → Cn.hit u m (cth cs j).k = false) := Lib.hid (fun hf j hj => by
                  by_cases hji : j < i
                  · exact HNO.out j hji
                  · rw [HKS.out j hj hji, HKK.out, hH, hf])
                clear hS hH hM hmin HNO HKS
                generalize decide (cB.take k = u.take k) = sb at *
                by_cases hit : sb = true ∧ cL = m
                · obtain ⟨hsb, hcm⟩ := hit
                  subst hsb
                  have hr : R = (cS, m, 0) := by rw [HR1.out, HH.out (by simp [hcm])]
                  have dcm : ((cL : Int) == (m : Int)) = true := by simp [hcm]
                  clear HR1 HH HA HNO2
                  subst hr
                  go_wp2
                  go_ret3
                  exact ⟨rfl, _, rfl⟩
                · have hno2 := HNO2.out (by
                    cases sb
                    · rfl
                    · rw [Bool.true_and]; exact decide_eq_false (fun e => hit ⟨rfl, e⟩))
                  have HNO3 := Lib.hid hno2
                  have hac := HA.out
                  clear HNO2 HH hno2 HA
                  generalize anyK cs u m i = ab at *
                  cases sb
                  · rw [Bool.false_and, Bool.or_false] at hac
                    have HAC := Lib.hid hac
                    clear hac hit
                    cases ab
                    all_goals
                      go_wp2
                      go_roundg (n - (i + 1))
                      case measure => omega
                      case rel => exact ⟨i + 1, by omega, rfl, congrArg Value.bool HAC.out.symm, by go_num, ⟨_, rfl⟩, HNO3⟩
                  · have hcm : cL ≠ m := fun e => hit ⟨rfl, e⟩
                    have dne : ((cL : Int) == (m : Int)) = false := by simp; omega
                    clear hit
                    cases ab
                    · have hml : m < cL := by omega
                      have HAC := Lib.hid (show anyK cs u m (i + 1) = true by rw [hac, decide_eq_true hml]; rfl)
                      clear hac
                      go_wp2
                      go_roundg (n - (i + 1))
                      case measure => omega
                      case rel => exact ⟨i + 1, by omega, rfl, congrArg Value.bool HAC.out.symm, by go_num, ⟨_, rfl⟩, HNO3⟩
                    · have HAC := Lib.hid (show anyK cs u m (i + 1) = true by rw [hac]; rfl)
                      clear hac
                      go_wp2
                      go_roundg (n - (i + 1))
                      case measure => omega
                      case rel => exact ⟨i + 1, by omega, rfl, congrArg Value.bool HAC.out.symm, by go_num, ⟨_, rfl⟩, HNO3⟩
          · have hie : i = n := by omega
            have hf := hit_none cs u m (by rw [HN.out, ← hie]; exact HNO.out)
            have hr := HR1.out
            rw [hf] at hr
            have ha := anyK_all cs u m
            rw [HN.out, ← hie] at ha
            dsimp only at hr
            rw [← ha] at hr
            clear HR1 HNO ha hf
            generalize anyK cs u m i = ab at *
            cases ab
            · have hr2 : R = (0, m, 2) := by rw [hr]; rfl
              clear hr
              subst hr2
              go_wp2
              go_ret3
              exact ⟨rfl, _, rfl⟩
            · have hr2 := Lib.hid (show R = Cn.rdAt (cs.map Cd.k) u (17 - (m + 1)) (m + 1) by rw [hr]; rfl)
              clear hr
              go_wp2
              go_roundg (17 - (m + 1))
              case measure => omega
              case rel => exact ⟨m + 1, by omega, by omega, rfl, by go_num, ⟨_, rfl⟩, hr2⟩
    · obtain rfl : m = 17 := by omega
      have hr : R = (0, 16, 2) := HR.out
      clear HR HR0
      subst hr
      go_wp2
      go_ret3
      exact ⟨rfl, _, rfl⟩
end Go.Proofs.Ytnlbomijnldlmaa
