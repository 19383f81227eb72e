/- burnishref09's Price of a token: its contract. -/
import Derived.Test.YtedncnaeojomcaaParPrice
import Derived.Deep.RegionHeld3
namespace Go.Proofs.Ytedncnaeojomcaa
open Go.RowKit
variable {w : World} {a1 a2 a3 : Option Addr} {n1 c1 n2 c2 n3 c3 : Nat} {l1 l2 l3 : List Int}
set_option maxRecDepth 100000 in
set_option maxHeartbeats 4000000 in
theorem refPrice_any (x y : Int) (htok : Tk.isTok (x, y) = true) (hg : Pa.good l1 l2 l3 = true) (h : Pa.Pr w a1 n1 c1 l1 a2 n2 c2 l2 a3 n3 c3 l3) :
    Calls Try.prog 13 #[.agg #[.slice a1 n1 c1, .slice a2 n2 c2, .slice a3 n3 c3], .agg #[.int .i64 x, .int .i64 y]] w fun e w' => e = .returned (.int .i64 (Pa.pr l1 l2 l3 (x, y))) ∧ Below w.heap.size w w' := by
  have hb := below_alloc2 w (.cells #[.slice a1 n1 c1, .slice a2 n2 c2, .slice a3 n3 c3] 25) (.cells #[.int .i64 x, .int .i64 y] 31)
  have hrp : ((w.alloc (.cells #[.slice a1 n1 c1, .slice a2 n2 c2, .slice a3 n3 c3] 25)).alloc (.cells #[.int .i64 x, .int .i64 y] 31)).heap[w.heap.size]? = some (.cells #[.slice a1 n1 c1, .slice a2 n2 c2, .slice a3 n3 c3] 25 (0, 0)) := heap_alloc2_old w _ _
  have hrt : ((w.alloc (.cells #[.slice a1 n1 c1, .slice a2 n2 c2, .slice a3 n3 c3] 25)).alloc (.cells #[.int .i64 x, .int .i64 y] 31)).heap[w.heap.size + 1]? = some (.cells #[.int .i64 x, .int .i64 y] 31 (0, 0)) := heap_alloc2_new w _ _
  have HP := Lib.hid (h.mono hb)
  have HL := Lib.hid (And.intro h.h1.hlen (And.intro h.h2.hlen h.h3.hlen))
  have HGD := Lib.hid (Pa.good_parts hg)
  have htr := Tk.tok_range htok
  simp only at htr
  clear h hg htok
  generalize hw1 : (w.alloc (.cells #[.slice a1 n1 c1, .slice a2 n2 c2, .slice a3 n3 c3] 25)).alloc (.cells #[.int .i64 x, .int .i64 y] 31) = w1 at *
  have p0 : w1.cell? ⟨w.heap.size, 0, none⟩ = some (.slice a1 n1 c1) := by rw [cell_of_row _ _ _ _ _ (0, 0) hrp]; rfl
  have p1 : w1.cell? ⟨w.heap.size, 1, none⟩ = some (.slice a2 n2 c2) := by rw [cell_of_row _ _ _ _ _ (0, 0) hrp]; rfl
  have p2 : w1.cell? ⟨w.heap.size, 2, none⟩ = some (.slice a3 n3 c3) := by rw [cell_of_row _ _ _ _ _ (0, 0) hrp]; rfl
  have t0 : w1.cell? ⟨w.heap.size + 1, 0, none⟩ = some (.int .i64 x) := by rw [cell_of_row _ _ _ _ _ (0, 0) hrt]; rfl
  have t1 : w1.cell? ⟨w.heap.size + 1, 1, none⟩ = some (.int .i64 y) := by rw [cell_of_row _ _ _ _ _ (0, 0) hrt]; rfl
  have HZ : Hid (w.heap.size + 1 < w1.heap.size) := Lib.hid (Array.getElem?_eq_some_iff.1 hrt).1
  have HB := Lib.hid hb
  clear hb hrp hrt
  by_cases hx : x = 0
  · subst hx
    obtain ⟨j, rfl⟩ : ∃ j : Nat, y = (j : Int) := ⟨y.toNat, by omega⟩
    have hn1 : n1 = 256 := by rw [← HL.out.1]; exact HGD.out.2.2.2.1
    obtain ⟨q, qo, rfl, _, hcq⟩ := HP.out.h1.at' j (by omega)
    have hpe : Pa.pr l1 l2 l3 (0, (j : Int)) = l1.getD j 0 := by unfold Pa.pr; rw [if_pos rfl, Int.toNat_natCast]
    rw [hpe]
    have hjn : j < n1 := by omega
    have i1 : (0 : Int) ≤ (j : Int) := by omega
    have i2 : (j : Int) < (n1 : Int) := by omega
    clear hpe hn1
    generalize l1.getD j 0 = z at *
    subst hw1
    go_enter Try.func13, Try.ntmps13
    go_wp2
    go_ret
    exact ⟨rfl, HB.out⟩
  · obtain ⟨xn, rfl⟩ : ∃ xn : Nat, x = (xn : Int) := ⟨x.toNat, by omega⟩
    obtain ⟨yn, rfl⟩ : ∃ yn : Nat, y = (yn : Int) := ⟨y.toNat, by omega⟩
    have hd30 : Sy.dsy yn < 30 := by have := Sy.cnt_le Sy.db 29 yn; unfold Sy.dsy; omega
    have hpe : Pa.pr l1 l2 l3 ((xn : Int), (yn : Int)) = l2.getD xn 0 + l3.getD (Sy.dsy yn) 0 := by unfold Pa.pr; rw [if_neg hx, Int.toNat_natCast, Int.toNat_natCast]
    rw [hpe]
    have HD : Hid (∀ X, Calls Try.prog 16 #[.int .i64 (yn : Nat)] X fun e w' => e = .returned (.int .i64 ((Sy.dsy yn : Nat) : Int)) ∧ Below X.heap.size X w') := Lib.hid (fun X => refDist_any yn X (by omega) (by omega))
    have dx0 : ((xn : Int) == 0) = false := by simp; omega
    generalize Sy.dsy yn = dq at *
    have hn2 : n2 = 259 := by rw [← HL.out.2.1]; exact HGD.out.2.2.2.2.1
    have hn3 : n3 = 30 := by rw [← HL.out.2.2]; exact HGD.out.2.2.2.2.2
    obtain ⟨q, qo, rfl, hql, hcq⟩ := HP.out.h2.at' xn (by omega)
    obtain ⟨u, uo, rfl, hul, hcu⟩ := HP.out.h3.at' dq (by omega)
    have i1 : (0 : Int) ≤ (xn : Int) := by omega
    have i2 : (xn : Int) < (n2 : Int) := by omega
    have i3 : (0 : Int) ≤ (dq : Int) := by omega
    have i4 : (dq : Int) < (n3 : Int) := by omega
    have hz1 := Pa.rng_get HGD.out.2.1 xn
    have hz2 := Pa.rng_get HGD.out.2.2.1 dq
    have HU := Lib.hid (And.intro hql hul)
    clear hn2 hn3 hpe hx HP hql hul
    generalize l2.getD xn 0 = z at *
    generalize l3.getD dq 0 = z2 at *
    have w1' : IntKind.i64.wrap (z + z2) = z + z2 := IntWalk.i64_in _ ⟨by omega, by omega⟩
    subst hw1
    go_enter Try.func13, Try.ntmps13
    go_wp2_with fail
    revert p0 p1 p2 t0 t1 HZ HB HU hcq hcu
    generalize (w.alloc (.cells #[.slice a1 n1 c1, .slice (some ⟨q, qo, none⟩) n2 c2, .slice (some ⟨u, uo, none⟩) n3 c3] 25)).alloc (.cells #[.int .i64 xn, .int .i64 yn] 31) = w1
    intro p0 HZ HB t0 t1 p1 p2 HU hcq hcu
    have HZZ : Hid (w.heap.size < w1.heap.size) := Lib.hid (by have := HZ.out; omega)
    go_region_held3 (fun w' => w'.cell? ⟨w.heap.size, 1, none⟩ = some (.slice (some ⟨q, qo, none⟩) n2 c2) ∧ w'.cell? ⟨w.heap.size, 2, none⟩ = some (.slice (some ⟨u, uo, none⟩) n3 c3) ∧ w'.cell? ⟨w.heap.size + 1, 0, none⟩ = some (.int .i64 xn) ∧ w'.cell? ⟨w.heap.size + 1, 1, none⟩ = some (.int .i64 yn) ∧ w'.cell? ⟨q, qo + xn, none⟩ = some (.int .i64 z) ∧ w'.cell? ⟨u, uo + dq, none⟩ = some (.int .i64 z2)) (go_keep)
      (first | (go_at_call 16; refine (HD.out _).mono ?_; rintro e w3 ⟨rfl, hb3⟩; have HB3 := Lib.hid hb3; have s1 := (hb3.cell (p := ⟨w.heap.size, 1, none⟩) HZZ.out).trans p1; have s2 := (hb3.cell (p := ⟨w.heap.size, 2, none⟩) HZZ.out).trans p2; have s3 := (hb3.cell (p := ⟨w.heap.size + 1, 0, none⟩) HZ.out).trans t0; have s4 := (hb3.cell (p := ⟨w.heap.size + 1, 1, none⟩) HZ.out).trans t1; have s5 := (hb3.cell (p := ⟨q, qo + xn, none⟩) HU.out.1).trans hcq; have s6 := (hb3.cell (p := ⟨u, uo + dq, none⟩) HU.out.2).trans hcu; clear hb3))
    go_wp2
    go_ret
    exact ⟨rfl, below_then HB.out (below_then (Below.drew (Below.refl w1.heap.size w1)) HB3.out)⟩
end Go.Proofs.Ytedncnaeojomcaa
