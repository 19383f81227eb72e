/- The document's Least: what the cheapest parse costs. burnishlaw09.parses: tokens that are chosen at each place are a parse. The law's kept. How layer 4's struct arguments are opened: {[]int, []byte, bool, int}, and {[16]int, []byte}. A law's argument: a struct of three slices of ints. -/
import Derived.Test.YtdojhglpiejfjaaDoorZ17
import Derived.Deep.RegionHeld3
import Derived.Deep.QuietTactic
import Derived.BigQuiet
import Derived.Deep.Slices
import Derived.Deep.Strs
import Derived.Lib.SmallJoins
import Derived.ChangeSame
import Derived.OpenShut
set_option linter.unusedSimpArgs false
set_option linter.unusedVariables false
section
namespace Go.Proofs.YtdojhglpiejfjaaDoor
open Go.RowKit

namespace Pz
/-- What is cheapest from a place on. -/
structure Ls (pr : Tok → Int) (b : Nat → Nat) (N : Nat) (R : Nat → List (Nat × Nat)) (f : Nat) (C : List Int) : Prop where
  lc : C.length = N + 1
  fin : C.getD N 0 = 0
  le : ∀ p, f ≤ p → p < N → ∀ t, Cho b R p t → C.getD p 0 ≤ pr t + C.getD (p + sp t) 0
  ex : ∀ p, f ≤ p → p < N → ∃ t, Cho b R p t ∧ C.getD p 0 = pr t + C.getD (p + sp t) 0
  rng : ∀ p, f ≤ p → p ≤ N → 0 ≤ C.getD p 0 ∧ C.getD p 0 ≤ 2097152 * ((N - p : Nat) : Int)
/-- At a place, behind so many nearest matches. -/
structure Lm (pr : Tok → Int) (b : Nat → Nat) (R : Nat → List (Nat × Nat)) (p k : Nat) (C : List Int) (best : Int) : Prop where
  lit : best ≤ pr (0, (b p : Int)) + C.getD (p + 1) 0
  le : ∀ i, i < k → best ≤ pr (((3 + i : Nat) : Int), ((Lz.far (R p) (3 + i) : Nat) : Int)) + C.getD (p + (3 + i)) 0
  ex : ∃ t, Cho b R p t ∧ best = pr t + C.getD (p + sp t) 0
variable {pr : Tok → Int} {b : Nat → Nat} {N : Nat} {R : Nat → List (Nat × Nat)}
theorem Ls.start (n : Nat) : Ls pr b n R n (List.replicate (n + 1) 0) :=
  ⟨by simp, by simp [List.getD, List.getElem?_replicate], fun p h1 h2 => by omega, fun p h1 h2 => by omega, fun p h1 h2 => by
    obtain rfl : p = n := by omega
    simp [List.getD, List.getElem?_replicate]⟩
theorem Lm.start (C : List Int) (p : Nat) : Lm pr b R p 0 C (pr (0, (b p : Int)) + C.getD (p + 1) 0) :=
  ⟨Int.le_refl _, fun i h => by omega, ⟨_, .inl rfl, rfl⟩⟩
theorem Lm.next {p k : Nat} {C : List Int} {best : Int} (h : Lm pr b R p k C best) (hk : 3 + k ≤ Lz.top (R p)) (c : Int) (hc : c = pr (((3 + k : Nat) : Int), ((Lz.far (R p) (3 + k) : Nat) : Int)) + C.getD (p + (3 + k)) 0) :
    (c < best → Lm pr b R p (k + 1) C c) ∧ (¬ c < best → Lm pr b R p (k + 1) C best) := by
  refine ⟨fun hl => ⟨by have := h.lit; omega, fun i hi => ?_, ⟨_, .inr ⟨3 + k, by omega, hk, rfl⟩, ?_⟩⟩, fun hl => ⟨h.lit, fun i hi => ?_, h.ex⟩⟩
  · rcases Nat.lt_succ_iff_lt_or_eq.1 hi with hi | rfl
    · have := h.le i hi; omega
    · omega
  · rw [hc]
    have : sp (((3 + k : Nat) : Int), ((Lz.far (R p) (3 + k) : Nat) : Int)) = 3 + k := by unfold sp; simp; omega
    rw [this]
  · rcases Nat.lt_succ_iff_lt_or_eq.1 hi with hi | rfl
    · exact h.le i hi
    · omega
theorem Lm.done {p : Nat} {C : List Int} {best : Int} (ht : Txt b N R) (h : Lm pr b R p (Lz.top (R p) - 2) C best) (hl : Ls pr b N R (p + 1) C) (hp : p < N) (hpr : ∀ t, 0 ≤ pr t ∧ pr t ≤ 2097152) : Ls pr b N R p (C.set p best) := by
  have c : ∀ j, p < j → (C.set p best).getD j 0 = C.getD j 0 := fun j hj => getD_set_ne' (by omega)
  have e1 : (C.set p best).getD p 0 = best := getD_set_eq' (by rw [hl.lc]; omega)
  have all : ∀ t, Cho b R p t → best ≤ pr t + C.getD (p + sp t) 0 := fun t hc => by
    rcases hc with rfl | ⟨n, h3, hn, rfl⟩
    · exact h.lit
    · have := h.le (n - 3) (by omega)
      rw [show 3 + (n - 3) = n by omega] at this
      have e : sp ((n : Int), ((Lz.far (R p) n : Nat) : Int)) = n := by unfold sp; simp; omega
      rw [e]; exact this
  refine ⟨by rw [List.length_set]; exact hl.lc, by rw [c N hp]; exact hl.fin, fun q h1 h2 t hc => ?_, fun q h1 h2 => ?_, fun q h1 h2 => ?_⟩
  all_goals by_cases e : q = p
  all_goals try subst e
  · rw [e1, c _ (by have := sp_pos t; omega)]; exact all t hc
  · rw [c q (by omega), c _ (by have := sp_pos t; omega)]; exact hl.le q (by omega) h2 t hc
  · obtain ⟨t, hc, e⟩ := h.ex
    exact ⟨t, hc, by rw [e1, c _ (by have := sp_pos t; omega)]; exact e⟩
  · obtain ⟨t, hc, e⟩ := hl.ex q (by omega) h2
    exact ⟨t, hc, by rw [c q (by omega), c _ (by have := sp_pos t; omega)]; exact e⟩
  · rw [e1]
    obtain ⟨t, hc, e⟩ := h.ex
    have hf := Cho.fits ht hp hc
    have r := hl.rng (q + sp t) (by omega) hf.1
    have r1 := hl.rng (q + 1) (by omega) (by omega)
    have p1 := hpr t
    have p2 := hpr (0, (b q : Int))
    have l1 := h.lit
    have e2 : ((N - q : Nat) : Int) = ((N - (q + 1) : Nat) : Int) + 1 := by omega
    rw [e2]
    omega
  · rw [c q (by omega)]; exact hl.rng q (by omega) h2
theorem Ls.least {C : List Int} (h : Ls pr b N R 0 C) : Least pr b N R 0 (fun p => C.getD p 0) :=
  ⟨h.fin, fun p _ hp t hc => h.le p (Nat.zero_le _) hp t hc, fun p _ hp => h.ex p (Nat.zero_le _) hp⟩
end Pz
theorem dn_below0 (w : World) (n : Nat) : Below w.heap.size w (w.drewN n) := ⟨rfl, rfl, rfl, Nat.le_refl _, fun _ _ => rfl⟩
section
variable {w : World} {a1 a2 a3 : Option Addr} {n1 c1 n2 c2 n3 c3 : Nat} {l1 l2 l3 : List Int}
set_option maxRecDepth 100000 in
set_option maxHeartbeats 4000000 in
theorem least_any (a : Option Addr) (N cap : Nat) (l : List UInt8) (Rs : List (List (Nat × Nat))) (ht : Bs w a N cap l) (hN : N ≤ 1048576) (hR : Recs l N N Rs) (h : Pa.Pr w a1 n1 c1 l1 a2 n2 c2 l2 a3 n3 c3 l3) (hg : Pa.good l1 l2 l3 = true) :
    Calls Tryd.prog 20 #[.slice a N cap, .agg #[.slice a1 n1 c1, .slice a2 n2 c2, .slice a3 n3 c3]] w fun e w' => (∃ C, Pz.Ls (Pa.pr l1 l2 l3) (gb l) N (fun p => ra Rs (p : Int)) 0 C ∧ e = .returned (.int .i64 (C.getD 0 0))) ∧ Below w.heap.size w w' := by
  have hb0 := below_alloc w (.cells #[.slice a1 n1 c1, .slice a2 n2 c2, .slice a3 n3 c3] 36)
  have hr0 : (w.alloc (.cells #[.slice a1 n1 c1, .slice a2 n2 c2, .slice a3 n3 c3] 36)).heap[w.heap.size]? = some (.cells #[.slice a1 n1 c1, .slice a2 n2 c2, .slice a3 n3 c3] 36 (0, 0)) := heap_alloc_last w _
  have HP := Lib.hid h
  have HT := Lib.hid ht
  have HGD := Lib.hid (Pa.good_parts hg)
  have HG := Lib.hid hg
  have HRR := Lib.hid hR
  have HTX := Lib.hid (Pz.txt_of hR)
  have HB0 := Lib.hid hb0
  have HR0 := Lib.hid hr0
  clear h ht hg hR hb0 hr0
  go_enter Tryd.func20, Tryd.ntmps20
  go_wp2_with (at_make; refine wpl_make_full tyI rfl _ _ rfl w.heap.size .i64 .i64 _ _ (N + 1) rfl rfl (by omega) (by omega) (by omega) (by omega) (by simp) ?_)
  intro w1 hown hg1
  have hmk := made_ints1 (N + 1)
  rw [Nat.mul_one] at hmk
  rw [hmk] at hown
  have HB1 := Lib.hid (HB0.out.grown hg1 (by simp) (fun r e => by cases e))
  have HR1 := Lib.hid ((hg1.block w.heap.size (by simp) (fun e => by cases e)).trans HR0.out)
  have HOW := Lib.hid hown
  have HZ : Hid (w.heap.size < w1.heap.size) := Lib.hid (Array.getElem?_eq_some_iff.1 HR1.out).1
  have HPR : Hid (∀ t, 0 ≤ Pa.pr l1 l2 l3 t ∧ Pa.pr l1 l2 l3 t ≤ 2097152) := Lib.hid (fun t => Pa.pr_in HGD.out.1 HGD.out.2.1 HGD.out.2.2.1 t)
  clear hown hg1 hmk HB0 HR0
  go_wp2
  go_loopw [6] (fun av wr => ∃ i : Nat, i ≤ N ∧ av = .int .i64 ((i : Int) - 1) ∧ Hid (∃ C, wr.ownsRow w.heap.size 3 1 (.slice (some ⟨w.heap.size + 1, 0, none⟩) (N + 1) (N + 1)) (N + 1) (ivs C) ∧ Pz.Ls (Pa.pr l1 l2 l3) (gb l) N (fun p => ra Rs (p : Int)) i C) ∧ Hid (Ch w1 wr (fun k => k = w.heap.size + 1))) (fun av _ => (intOf av + 1).toNat)
  case atStart => exact ⟨N, Nat.le_refl _, rfl, Lib.hid ⟨_, HOW.out, Pz.Ls.start N⟩, Lib.hid (Ch.refl _ _)⟩
  case round =>
    clear HOW
    obtain ⟨i, hi, rfl, HO, HC⟩ := hrel
    by_cases h0 : i = 0
    · subst h0
      obtain ⟨C, hown, hls⟩ := HO.out
      have k0 := og_int hown 0 (by omega)
      have HLS := Lib.hid hls
      have HBB : Hid (Below w.heap.size w wr) := Lib.hid (HB1.out.trans (HC.out.below (Nat.le_of_lt HZ.out) (fun k hk => by omega)))
      clear hown hls
      obtain ⟨c0, hc0⟩ : ∃ c0, C.getD 0 0 = c0 := ⟨_, rfl⟩
      have HC0 := Lib.hid hc0
      rw [hc0] at k0
      clear hc0
      go_wp2
      go_ret
      exact ⟨⟨C, HLS.out, by rw [HC0.out]; rfl⟩, HBB.out⟩
    · obtain ⟨p, rfl⟩ : ∃ p, i = p + 1 := ⟨i - 1, by omega⟩
      have e1 : ((p + 1 : Nat) : Int) - 1 = (p : Int) := by omega
      rw [e1]
      clear e1 h0
      have hpN : p < N := by omega
      obtain ⟨C, hown, hls⟩ := HO.out
      have HLS := Lib.hid hls
      have HOW := Lib.hid hown
      have hrw := (HC.out.block w.heap.size HZ.out (by omega)).trans HR1.out
      have HRW := Lib.hid hrw
      have HBR : Hid (Below w.heap.size w wr) := Lib.hid (HB1.out.trans (HC.out.below (Nat.le_of_lt HZ.out) (fun k hk => by omega)))
      have p0 : wr.cell? ⟨w.heap.size, 0, none⟩ = some (.slice a1 n1 c1) := by rw [cell_of_row _ _ _ _ _ (0, 0) hrw]; rfl
      obtain ⟨tb, toff, rfl, htw, htc⟩ := HT.out.at' p hpN
      have tc : wr.cell? ⟨tb, toff + p, none⟩ = some (.int .u8 (gb l p)) := (HBR.out.cell (p := ⟨tb, toff + p, none⟩) htw).trans htc
      have hgl := gb_lt l p
      have hl1 : n1 = 256 := by rw [← HP.out.h1.hlen]; exact HGD.out.2.2.2.1
      obtain ⟨qb, qo, rfl, hqw, hqc⟩ := HP.out.h1.at' (gb l p) (by omega)
      have qc : wr.cell? ⟨qb, qo + gb l p, none⟩ = some (.int .i64 (l1.getD (gb l p) 0)) := (HBR.out.cell (p := ⟨qb, qo + gb l p, none⟩) hqw).trans hqc
      have kc := og_int hown (p + 1) (by omega)
      have hzr := Pa.rng_get HGD.out.1 (gb l p)
      have hcr := hls.rng (p + 1) (Nat.le_refl _) (by omega)
      have hcr2 : ((N - (p + 1) : Nat) : Int) ≤ 1048576 := by omega
      have HM0 : Hid (Pz.Lm (Pa.pr l1 l2 l3) (gb l) (fun p => ra Rs (p : Int)) p 0 C (l1.getD (gb l p) 0 + C.getD (p + 1) 0)) := Lib.hid (by
        have e := Pz.Lm.start (pr := Pa.pr l1 l2 l3) (b := gb l) (R := fun p => ra Rs (p : Int)) C p
        have e2 : Pa.pr l1 l2 l3 (0, ((gb l p : Nat) : Int)) = l1.getD (gb l p) 0 := by unfold Pa.pr; rw [if_pos rfl, Int.toNat_natCast]
        rwa [e2] at e)
      have i1 : (p : Int) < (N : Int) := by omega
      have i2 : ((gb l p : Nat) : Int) < (n1 : Int) := by omega
      have i3 : (p : Int) + 1 < (N : Int) + 1 := by omega
      have i4 : (0 : Int) ≤ (p : Int) := by omega
      have i5 : (0 : Int) ≤ (p : Int) + 1 := by omega
      have hbest : 0 ≤ l1.getD (gb l p) 0 + C.getD (p + 1) 0 ∧ l1.getD (gb l p) 0 + C.getD (p + 1) 0 ≤ 2199024304128 := by omega
      have HBE := Lib.hid hbest
      generalize hgb : gb l p = g at *
      clear hgb
      have wz : wrap64 (l1.getD g 0 + C.getD (p + 1) 0) = l1.getD g 0 + C.getD (p + 1) 0 := IntWalk.wrap64_in _ ⟨by omega, by omega⟩
      generalize l1.getD g 0 = z at *
      generalize C.getD (p + 1) 0 = cz at *
      have wz2 : IntKind.i64.wrap (z + cz) = z + cz := IntWalk.i64_in _ ⟨by omega, by omega⟩
      have HRA := Lib.hid (recAt_of HRR.out (p : Int))
      have HNR : Hid (∀ n, Calls Tryd.prog 28 #[.slice (some ⟨tb, toff, none⟩) N cap, .int .i64 (p : Nat)] (wr.drewN n) (RNPost (wr.drewN n) (ra Rs (p : Int)))) := Lib.hid (fun n => refNear_any _ N cap l (p : Int) (ra Rs (p : Int)) (wr.drewN n) ((HT.out.mono HBR.out).mono (dn_below0 wr n)) (wf_small p (by omega)) hN HRA.out)
      clear hown hls hrw htw htc hl1 hqw hqc hcr hcr2 hzr hbest
      go_wp2
      go_quiet (fail)
      go_wp2_with fail
      refine (HNR.out _).mono ?_
      rintro e w4 ⟨v4, rfl, own4, hb4⟩
      obtain ⟨a4, c4, rfl, his⟩ := own_is own4 (wantI_wf HRA.out)
      have hle4 := his.hle
      have HIS := Lib.hid his
      have HWG := Lib.hid (fun i hi => wantI_getD (ra Rs (p : Int)) i hi)
      have HB4 : Hid (Below wr.heap.size wr w4) := Lib.hid (below_then (dn_below0 wr _) hb4)
      have hwl := recAt_top HRA.out
      have HTP : Hid (∀ k, k < Lz.top (ra Rs (p : Int)) - 2 → 3 + k ≤ Lz.top (ra Rs (p : Int))) := Lib.hid (fun k hk => by omega)
      generalize hwn : Lz.top (ra Rs (p : Int)) - 2 = wl at *
      have HWN := Lib.hid hwn
      have HOW4 := Lib.hid (own_below HOW.out HB4.out)
      have HRW4 := Lib.hid ((HB4.out.block w.heap.size (Array.getElem?_eq_some_iff.1 HRW.out).1).trans HRW.out)
      have HBR4 := Lib.hid (below_then HBR.out HB4.out)
      have HC4 : Hid (Ch w1 w4 (fun k => k = w.heap.size + 1)) := Lib.hid (HC.out.trans (Ch.of_below HB4.out : Ch wr w4 (fun k => k = w.heap.size + 1)) (fun n hn => .inl hn))
      clear hwn his own4 hb4 HNR p0 tc qc kc HOW HRW HBR HC HB4 HO
      go_wp2
      go_loopw [7, 9] (fun bv iv ws => ∃ (k : Nat) (best : Int), k ≤ wl ∧ iv = .int .i64 ((k : Nat) : Int) ∧ bv = .int .i64 best ∧ 0 ≤ best ∧ best ≤ 2199024304128 ∧ Hid (Pz.Lm (Pa.pr l1 l2 l3) (gb l) (fun p => ra Rs (p : Int)) p k C best) ∧ Hid (Below w4.heap.size w4 ws)) (fun _ iv _ => wl - (intOf iv).toNat)
      case atStart => exact ⟨0, _, by omega, rfl, rfl, HBE.out.1, HBE.out.2, HM0, Lib.hid (Below.refl _ _)⟩
      case round =>
        clear HM0 HBE
        obtain ⟨k, best, hk, rfl, rfl, hb0, hb1, HM, HBS⟩ := hrel
        have HOW5 := Lib.hid (own_below HOW4.out HBS.out)
        have HBW := Lib.hid (below_then HBR4.out HBS.out)
        by_cases hlt : k < wl
        · have hrw := (HBS.out.block w.heap.size (Array.getElem?_eq_some_iff.1 HRW4.out).1).trans HRW4.out
          obtain ⟨b4, o4, rfl, hl4, hc4⟩ := HIS.out.at' k hlt
          rw [HWG.out k hlt] at hc4
          have c4' : wr.cell? ⟨b4, o4 + k, none⟩ = _ := (HBS.out.cell (p := ⟨b4, o4 + k, none⟩) hl4).trans hc4
          have HTK := HTP.out k hlt
          have hcho : Pz.Cho (gb l) (fun p => ra Rs (p : Int)) p (((3 + k : Nat) : Int), ((Lz.far (ra Rs (p : Int)) (3 + k) : Nat) : Int)) := .inr ⟨3 + k, by omega, HTK, rfl⟩
          have htok := Pz.Cho.tok HTX.out hpN hcho
          obtain ⟨hmt, hm2, hm3⟩ := Pz.Cho.mat HTX.out hpN (n := 3 + k) (by omega) HTK
          have kc := og_int HOW5.out (p + (3 + k)) (by omega)
          have hcr := HLS.out.rng (p + (3 + k)) (by omega) (by omega)
          have hcr2 : ((N - (p + (3 + k)) : Nat) : Int) ≤ 1048576 := by omega
          have hpr := HPR.out (((3 + k : Nat) : Int), ((Lz.far (ra Rs (p : Int)) (3 + k) : Nat) : Int))
          have HNX := Lib.hid (fun c hc => HM.out.next HTK c hc)
          have HRP : Hid (∀ X, Below wr.heap.size wr X → Calls Tryd.prog 19 #[.agg #[.slice (some ⟨qb, qo, none⟩) n1 c1, .slice a2 n2 c2, .slice a3 n3 c3], .agg #[.int .i64 (3 + (k : Int)), .int .i64 ((Lz.far (ra Rs (p : Int)) (3 + k) : Nat) : Int)]] X fun e w' => e = .returned (.int .i64 (Pa.pr l1 l2 l3 (((3 + k : Nat) : Int), ((Lz.far (ra Rs (p : Int)) (3 + k) : Nat) : Int)))) ∧ Below X.heap.size X w') := Lib.hid (fun X hb => by
            have := refPrice_any (((3 + k : Nat) : Int)) ((Lz.far (ra Rs (p : Int)) (3 + k) : Nat) : Int) htok HG.out (HP.out.mono (below_then HBW.out hb))
            rwa [show ((3 + k : Nat) : Int) = 3 + (k : Int) by omega] at this ⊢)
          generalize Lz.far (ra Rs (p : Int)) (3 + k) = fr at *
          generalize Pa.pr l1 l2 l3 (((3 + k : Nat) : Int), ((fr : Nat) : Int)) = pz at *
          obtain ⟨q, hq⟩ : ∃ q, p + (3 + k) = q := ⟨_, rfl⟩
          rw [hq] at kc hcr HNX
          generalize C.getD q 0 = cx at *
          have p0 : wr.cell? ⟨w.heap.size, 0, none⟩ = some (.slice (some ⟨qb, qo, none⟩) n1 c1) := by rw [cell_of_row _ _ _ _ _ (0, 0) hrw]; rfl
          have p1 : wr.cell? ⟨w.heap.size, 1, none⟩ = some (.slice a2 n2 c2) := by rw [cell_of_row _ _ _ _ _ (0, 0) hrw]; rfl
          have p2 : wr.cell? ⟨w.heap.size, 2, none⟩ = some (.slice a3 n3 c3) := by rw [cell_of_row _ _ _ _ _ (0, 0) hrw]; rfl
          have HLL : Hid (w.heap.size < wr.heap.size ∧ b4 < wr.heap.size ∧ w.heap.size + 1 < wr.heap.size) := Lib.hid ⟨(Array.getElem?_eq_some_iff.1 hrw).1, Nat.lt_of_lt_of_le hl4 HBS.out.size, (HOW5.out.lt _ rfl).2⟩
          have j1 : IntKind.i64.wrap ((p : Int) + 3) = (p : Int) + 3 := IntWalk.i64_in _ ⟨by omega, by omega⟩
          have j2 : IntKind.i64.wrap ((p : Int) + 3 + (k : Int)) = (q : Int) := by rw [IntWalk.i64_in _ ⟨by omega, by omega⟩]; omega
          have j3 : IntKind.i64.wrap (3 + (k : Int)) = 3 + (k : Int) := IntWalk.i64_in _ ⟨by omega, by omega⟩
          have j4 : IntKind.i64.wrap (pz + cx) = pz + cx := IntWalk.i64_in _ ⟨by omega, by omega⟩
          have j4' : wrap64 (pz + cx) = pz + cx := IntWalk.wrap64_in _ ⟨by omega, by omega⟩
          have j5 : (k : Int) < (wl : Int) := by omega
          have j6 : (0 : Int) ≤ (k : Int) := by omega
          have j7 : (0 : Int) ≤ (q : Int) := by omega
          have j8 : (q : Int) < (N : Int) + 1 := by omega
          have hsum : 0 ≤ pz + cx ∧ pz + cx ≤ 2199024304128 := by omega
          clear hc4 hl4 hcho htok hm2 hm3 hmt hcr hcr2 hrw HTK hq
          go_wp2_with fail
          go_region_held3 (fun w' => w'.cell? ⟨w.heap.size, 0, none⟩ = some (.slice (some ⟨qb, qo, none⟩) n1 c1) ∧ w'.cell? ⟨w.heap.size, 1, none⟩ = some (.slice a2 n2 c2) ∧ w'.cell? ⟨w.heap.size, 2, none⟩ = some (.slice a3 n3 c3) ∧ w'.cell? ⟨b4, o4 + k, none⟩ = some (.int .i64 (fr : Nat)) ∧ w'.cell? ⟨w.heap.size + 1, q, none⟩ = some (.int .i64 cx)) (go_keep)
            (first | (go_at_call 19; refine (HRP.out _ (dn_below0 wr 1)).mono ?_; rintro e w3 ⟨rfl, hb3⟩; have HB3 := Lib.hid hb3; have s1 := (hb3.cell (p := ⟨w.heap.size, 0, none⟩) HLL.out.1).trans p0; have s2 := (hb3.cell (p := ⟨w.heap.size, 1, none⟩) HLL.out.1).trans p1; have s3 := (hb3.cell (p := ⟨w.heap.size, 2, none⟩) HLL.out.1).trans p2; have s4 := (hb3.cell (p := ⟨b4, o4 + k, none⟩) HLL.out.2.1).trans c4'; have s5 := (hb3.cell (p := ⟨w.heap.size + 1, q, none⟩) HLL.out.2.2).trans kc; clear hb3))
          have HBN := Lib.hid (below_then HBS.out (below_then (dn_below0 wr 1) HB3.out))
          have hnx := HNX.out (pz + cx) rfl
          have HN1 := Lib.hid hnx.1
          have HN2 := Lib.hid hnx.2
          clear hnx HNX HRP HB3 p0 p1 p2 s1 s2 s3 s4 s5 kc c4' HOW5 HBW HM
          by_cases hlb : pz + cx < best
          · have d1 : decide (pz + cx < best) = true := decide_eq_true hlb
            have HM1 := Lib.hid (HN1.out hlb)
            clear hlb
            go_wp2
            go_roundw
            case rel => exact ⟨k + 1, pz + cx, by omega, by go_num, rfl, hsum.1, hsum.2, HM1, HBN⟩
            case measure => simp [intOf]; omega
          · have d1 : decide (pz + cx < best) = false := decide_eq_false hlb
            have HM1 := Lib.hid (HN2.out (by omega))
            clear hlb
            go_wp2
            go_roundw
            case rel => exact ⟨k + 1, best, by omega, by go_num, rfl, hb0, hb1, HM1, HBN⟩
            case measure => simp [intOf]; omega
        · obtain rfl : wl = k := by omega
          have hset := own_set HOW5.out p best
          have HLN : Hid (∃ C', (wr.setCell ⟨w.heap.size + 1, p, none⟩ (.int .i64 best)).ownsRow w.heap.size 3 1 (.slice (some ⟨w.heap.size + 1, 0, none⟩) (N + 1) (N + 1)) (N + 1) (ivs C') ∧ Pz.Ls (Pa.pr l1 l2 l3) (gb l) N (fun p => ra Rs (p : Int)) p C') := Lib.hid ⟨_, hset, Pz.Lm.done HTX.out (by rw [HWN.out]; exact HM.out) HLS.out hpN HPR.out⟩
          have HCN : Hid (Ch w1 (wr.setCell ⟨w.heap.size + 1, p, none⟩ (.int .i64 best)) (fun k => k = w.heap.size + 1)) := Lib.hid ((HC4.out.trans (Ch.of_below HBS.out : Ch w4 wr (fun k => k = w.heap.size + 1)) (fun n hn => .inl hn)).set (p := ⟨w.heap.size + 1, p, none⟩) (.inl rfl) _)
          have kx := og_int HOW5.out p (by omega)
          have kf := og_fz HOW5.out p
          have i6 : (p : Int) < (N : Int) + 1 := by omega
          clear hset HOW5
          go_wp2
          go_roundw
          case rel => exact ⟨p, by omega, rfl, HLN, HCN⟩
          case measure => simp [intOf]
end
end Go.Proofs.YtdojhglpiejfjaaDoor
end

section
namespace Go.Proofs.YtdojhglpiejfjaaDoor
open Go.RowKit

theorem dn_below1 (w : World) (n : Nat) : Below w.heap.size w (w.drewN n) := ⟨rfl, rfl, rfl, Nat.le_refl _, fun _ _ => rfl⟩
set_option maxRecDepth 100000 in
set_option maxHeartbeats 4000000 in
theorem parses_any (a : Option Addr) (N cap : Nat) (l : List UInt8) (Rs : List (List (Nat × Nat))) (F : Nat → Tok) (b : Option Addr) (K bc : Nat) (w : World) (ht : Bs w a N cap l) (hN : N ≤ 1048576) (hR : Recs l N N Rs)
    (hts : Ts2 w b K bc (Pz.toks F K)) (hF : ∀ p, p < N → Pz.Cho (gb l) (fun p => ra Rs (p : Int)) p (F p)) (hK : Pz.pos F K = N) (hJ : ∀ j, j < K → Pz.pos F j < N) :
    Calls Tryd.prog 18 #[.slice a N cap, .slice b K bc] w fun e w' => e = .returned (.bool true) ∧ Below w.heap.size w w' := by
  have HT := Lib.hid ht
  have HRR := Lib.hid hR
  have HTX := Lib.hid (Pz.txt_of hR)
  have HTS := Lib.hid hts
  have HF := Lib.hid hF
  have HK := Lib.hid hK
  have HJ := Lib.hid hJ
  have hkn : K ≤ N := by have := Pz.pos_ge F K; omega
  clear ht hR hts hF hK hJ
  go_enter Tryd.func18, Tryd.ntmps18
  go_wp2
  go_loopw [5, 11] (fun av iv wr => ∃ k : Nat, k ≤ K ∧ iv = .int .i64 ((k : Nat) : Int) ∧ av = .int .i64 ((Pz.pos F k : Nat) : Int) ∧ Hid (Below w.heap.size w wr)) (fun _ iv _ => K - (intOf iv).toNat)
  case atStart => exact ⟨0, Nat.zero_le _, rfl, rfl, Lib.hid (Below.refl _ _)⟩
  case round =>
    obtain ⟨k, hk, rfl, rfl, HB⟩ := hrel
    by_cases hlt : k < K
    · have hp := HJ.out k hlt
      have HP1 : Hid (Pz.pos F (k + 1) = Pz.pos F k + Pz.sp (F (Pz.pos F k))) := Lib.hid rfl
      obtain ⟨tb, toff, rfl, htl, t0, t1⟩ := (HTS.out.mono HB.out).at' k hlt
      rw [Pz.toks_getD F hlt] at t0 t1
      have HCH := Lib.hid (HF.out _ hp)
      generalize hpk : Pz.pos F k = pk at *
      clear hpk
      have HFT := Lib.hid (Pz.Cho.fits HTX.out hp HCH.out)
      have hrow : (wr.alloc (.cells #[.int .i64 (F pk).1, .int .i64 (F pk).2] 46)).heap[wr.heap.size]? = some (.cells #[.int .i64 (F pk).1, .int .i64 (F pk).2] 46 (0, 0)) := heap_alloc_last wr _
      have hb1 := below_alloc wr (.cells #[.int .i64 (F pk).1, .int .i64 (F pk).2] 46)
      have HB1 := Lib.hid (below_then HB.out hb1)
      have r0 : (wr.alloc (.cells #[.int .i64 (F pk).1, .int .i64 (F pk).2] 46)).cell? ⟨wr.heap.size, 0, none⟩ = some (.int .i64 (F pk).1) := by rw [cell_of_row _ _ _ _ _ (0, 0) hrow]; rfl
      have r1 : (wr.alloc (.cells #[.int .i64 (F pk).1, .int .i64 (F pk).2] 46)).cell? ⟨wr.heap.size, 1, none⟩ = some (.int .i64 (F pk).2) := by rw [cell_of_row _ _ _ _ _ (0, 0) hrow]; rfl
      have HROW := Lib.hid hrow
      rcases HCH.out with he | ⟨n, h3, hn, he⟩
      · obtain ⟨xb, xoff, rfl, hxl, hxc⟩ := (HT.out.mono HB1.out).at' pk hp
        rw [he] at t0 t1 r0 r1 HP1 HFT HROW hb1 HB1 hxc hxl
        have hz := gb_lt l pk
        clear HCH he hrow hb1 htl hxl
        generalize gb l pk = z at *
        have HSP : Hid (Pz.pos F (k + 1) = pk + 1) := Lib.hid (by rw [HP1.out]; rfl)
        clear HP1
        go_wp2
        go_quiet (fail)
        go_wp2
        go_roundw
        case rel => exact ⟨k + 1, by omega, by go_num, by rw [HSP.out]; go_num, Lib.hid (below_then HB1.out (dn_below1 _ _))⟩
        case measure => simp [intOf]; omega
      · obtain ⟨j, rfl⟩ : ∃ j, n = j + 3 := ⟨n - 3, by omega⟩
        have hjt : j + 3 ≤ Lz.top (ra Rs (pk : Int)) := hn
        have hm := Pz.Cho.mat HTX.out hp h3 hn
        have HRA := Lib.hid (recAt_of HRR.out (pk : Int))
        have HWG := wantI_getD (ra Rs (pk : Int)) j (by omega)
        rw [show 3 + j = j + 3 by omega] at HWG
        have hfe : Lz.far ((fun p => ra Rs (p : Int)) pk) (j + 3) = Lz.far (ra Rs (pk : Int)) (j + 3) := rfl
        rw [hfe] at he
        rw [he] at t0 t1 r0 r1 HP1 HFT HROW hb1 HB1
        have hc3 : ((j + 3 : Nat) : Int) = (j : Int) + 3 := by omega
        have hsp : Pz.sp (((j + 3 : Nat) : Int), ((Lz.far (ra Rs (pk : Int)) (j + 3) : Nat) : Int)) = j + 3 := by unfold Pz.sp; simp; omega
        rw [hsp] at HP1 HFT
        have hft := HFT.out.1
        have HRN : Hid (Calls Tryd.prog 28 #[.slice a N cap, .int .i64 (pk : Nat)] (wr.alloc (.cells #[.int .i64 ((j + 3 : Nat) : Int), .int .i64 ((Lz.far (ra Rs (pk : Int)) (j + 3) : Nat) : Int)] 46)) (RNPost (wr.alloc (.cells #[.int .i64 ((j + 3 : Nat) : Int), .int .i64 ((Lz.far (ra Rs (pk : Int)) (j + 3) : Nat) : Int)] 46)) (ra Rs (pk : Int)))) := Lib.hid (refNear_any a N cap l (pk : Int) (ra Rs (pk : Int)) _ (HT.out.mono HB1.out) (wf_small pk (by omega)) hN HRA.out)
        simp only at t0 t1 r0 r1 hb1 HB1
        rw [hc3] at t0 r0 HRN HROW HB1
        generalize Lz.far (ra Rs (pk : Int)) (j + 3) = fr at *
        obtain ⟨hm1, hm2, hm3⟩ := hm
        clear hm1 HCH he hrow hb1 htl hsp hfe hn hc3 hm3
        have d0 : ((j : Int) + 3 == 0) = false := by simp; omega
        go_wp2_with fail
        refine HRN.out.mono ?_
        rintro e w4 ⟨v4, rfl, own4, hb4⟩
        obtain ⟨a4, c4, rfl, his⟩ := own_is own4 (wantI_wf HRA.out)
        obtain ⟨b4, o4, rfl, _, hc4⟩ := his.at' j (by omega)
        rw [HWG] at hc4
        have hle4 := his.hle
        have hz1 := hb4.size
        have hrow4 := (hb4.block wr.heap.size (by simp)).trans HROW.out
        have r0 : w4.cell? ⟨wr.heap.size, 0, none⟩ = some (.int .i64 ((j : Int) + 3)) := by rw [cell_of_row _ _ _ _ _ (0, 0) hrow4]; rfl
        have r1 : w4.cell? ⟨wr.heap.size, 1, none⟩ = some (.int .i64 (fr : Nat)) := by rw [cell_of_row _ _ _ _ _ (0, 0) hrow4]; rfl
        have HB4 := Lib.hid (below_then HB1.out hb4)
        have hjw : j < Lz.top (ra Rs (pk : Int)) - 2 := by omega
        generalize Lz.top (ra Rs (pk : Int)) - 2 = wl at *
        have d1 : decide ((j : Int) + 3 < 3) = false := by simp; omega
        have d2 : decide (wl ≤ j) = false := by simp; omega
        have d3 : decide ((wl : Int) ≤ (j : Int)) = false := by simp; omega
        have i1 : (j : Int) < (wl : Int) := by omega
        have i2 : (0 : Int) ≤ (j : Int) := by omega
        clear own4 his hb4 hrow4 hjt HRN HROW HWG
        go_wp2
        go_quiet (fail)
        go_wp2
        go_roundw
        case rel => exact ⟨k + 1, by omega, by go_num, by rw [HP1.out]; go_num, Lib.hid (below_then HB4.out (dn_below1 _ _))⟩
        case measure => simp [intOf]; omega
    · obtain rfl : k = K := by omega
      have hkk := HK.out
      go_wp2
      go_ret
      exact ⟨by simp [hkk], HB.out⟩
end Go.Proofs.YtdojhglpiejfjaaDoor
end

section
namespace Go.Proofs.YtdojhglpiejfjaaDoor
open Go.RowKit
variable {w0 w : World} {a1 a2 a3 : Option Addr} {n1 c1 n2 c2 n3 c3 : Nat} {l1 l2 l3 : List Int} {g1 g2 g3 : Nat}
theorem Pa.Cp3.mono {w' : World} (h : Pa.Cp3 w0 w g1 n1 l1 g2 n2 l2 g3 n3 l3) (hb : Below w.heap.size w w') : Pa.Cp3 w0 w' g1 n1 l1 g2 n2 l2 g3 n3 l3 := ⟨own_below h.o1 hb, own_below h.o2 hb, own_below h.o3 hb⟩
set_option maxRecDepth 100000 in
set_option maxHeartbeats 2000000 in
theorem keptP_any (hc : Pa.Cp3 w0 w g1 n1 l1 g2 n2 l2 g3 n3 l3) (h : Pa.Pr w a1 n1 c1 l1 a2 n2 c2 l2 a3 n3 c3 l3) (k1 : n1 ≤ 1000) (k2 : n2 ≤ 1000) (k3 : n3 ≤ 1000) :
    Calls Tryd.prog 15 #[.agg #[.slice (some ⟨g1, 0, none⟩) n1 (n1 + 1), .slice (some ⟨g2, 0, none⟩) n2 (n2 + 1), .slice (some ⟨g3, 0, none⟩) n3 (n3 + 1)], .agg #[.slice a1 n1 c1, .slice a2 n2 c2, .slice a3 n3 c3]] w fun e w' => e = .returned (.bool true) ∧ Below w.heap.size w w' := by
  have hb := below_alloc2 w (.cells #[.slice (some ⟨g1, 0, none⟩) n1 (n1 + 1), .slice (some ⟨g2, 0, none⟩) n2 (n2 + 1), .slice (some ⟨g3, 0, none⟩) n3 (n3 + 1)] 38) (.cells #[.slice a1 n1 c1, .slice a2 n2 c2, .slice a3 n3 c3] 36)
  have hrq : ((w.alloc (.cells #[.slice (some ⟨g1, 0, none⟩) n1 (n1 + 1), .slice (some ⟨g2, 0, none⟩) n2 (n2 + 1), .slice (some ⟨g3, 0, none⟩) n3 (n3 + 1)] 38)).alloc (.cells #[.slice a1 n1 c1, .slice a2 n2 c2, .slice a3 n3 c3] 36)).heap[w.heap.size]? = some (.cells #[.slice (some ⟨g1, 0, none⟩) n1 (n1 + 1), .slice (some ⟨g2, 0, none⟩) n2 (n2 + 1), .slice (some ⟨g3, 0, none⟩) n3 (n3 + 1)] 38 (0, 0)) := heap_alloc2_old w _ _
  have hrp : ((w.alloc (.cells #[.slice (some ⟨g1, 0, none⟩) n1 (n1 + 1), .slice (some ⟨g2, 0, none⟩) n2 (n2 + 1), .slice (some ⟨g3, 0, none⟩) n3 (n3 + 1)] 38)).alloc (.cells #[.slice a1 n1 c1, .slice a2 n2 c2, .slice a3 n3 c3] 36)).heap[w.heap.size + 1]? = some (.cells #[.slice a1 n1 c1, .slice a2 n2 c2, .slice a3 n3 c3] 36 (0, 0)) := heap_alloc2_new w _ _
  have HC := Lib.hid (hc.mono hb)
  have HP := Lib.hid (h.mono hb)
  have HB := Lib.hid hb
  clear hc h hb
  go_enter Tryd.func15, Tryd.ntmps15
  revert hrq hrp HC HP HB
  have hz : (w.alloc (.cells #[.slice (some ⟨g1, 0, none⟩) n1 (n1 + 1), .slice (some ⟨g2, 0, none⟩) n2 (n2 + 1), .slice (some ⟨g3, 0, none⟩) n3 (n3 + 1)] 38)).heap.size = w.heap.size + 1 := by simp
  clear hz
  intro hrq hrp HC HP HB
  have cq : ∀ X, Below ((w.alloc (.cells #[.slice (some ⟨g1, 0, none⟩) n1 (n1 + 1), .slice (some ⟨g2, 0, none⟩) n2 (n2 + 1), .slice (some ⟨g3, 0, none⟩) n3 (n3 + 1)] 38)).alloc (.cells #[.slice a1 n1 c1, .slice a2 n2 c2, .slice a3 n3 c3] 36)).heap.size ((w.alloc (.cells #[.slice (some ⟨g1, 0, none⟩) n1 (n1 + 1), .slice (some ⟨g2, 0, none⟩) n2 (n2 + 1), .slice (some ⟨g3, 0, none⟩) n3 (n3 + 1)] 38)).alloc (.cells #[.slice a1 n1 c1, .slice a2 n2 c2, .slice a3 n3 c3] 36)) X →
      (X.cell? ⟨w.heap.size, 0, none⟩ = some (.slice (some ⟨g1, 0, none⟩) n1 (n1 + 1)) ∧ X.cell? ⟨w.heap.size, 1, none⟩ = some (.slice (some ⟨g2, 0, none⟩) n2 (n2 + 1)) ∧ X.cell? ⟨w.heap.size, 2, none⟩ = some (.slice (some ⟨g3, 0, none⟩) n3 (n3 + 1))) ∧
      (X.cell? ⟨w.heap.size + 1, 0, none⟩ = some (.slice a1 n1 c1) ∧ X.cell? ⟨w.heap.size + 1, 1, none⟩ = some (.slice a2 n2 c2) ∧ X.cell? ⟨w.heap.size + 1, 2, none⟩ = some (.slice a3 n3 c3)) := fun X hX => by
    have e1 := (hX.block _ (Array.getElem?_eq_some_iff.1 hrq).1).trans hrq
    have e2 := (hX.block _ (Array.getElem?_eq_some_iff.1 hrp).1).trans hrp
    refine ⟨⟨?_, ?_, ?_⟩, ?_, ?_, ?_⟩
    · rw [cell_of_row _ _ _ _ _ (0, 0) e1]; rfl
    · rw [cell_of_row _ _ _ _ _ (0, 0) e1]; rfl
    · rw [cell_of_row _ _ _ _ _ (0, 0) e1]; rfl
    · rw [cell_of_row _ _ _ _ _ (0, 0) e2]; rfl
    · rw [cell_of_row _ _ _ _ _ (0, 0) e2]; rfl
    · rw [cell_of_row _ _ _ _ _ (0, 0) e2]; rfl
  have HQ := Lib.hid cq
  clear cq hrq hrp
  generalize hw1 : (w.alloc (.cells #[.slice (some ⟨g1, 0, none⟩) n1 (n1 + 1), .slice (some ⟨g2, 0, none⟩) n2 (n2 + 1), .slice (some ⟨g3, 0, none⟩) n3 (n3 + 1)] 38)).alloc (.cells #[.slice a1 n1 c1, .slice a2 n2 c2, .slice a3 n3 c3] 36) = w1 at *
  obtain ⟨⟨q0, q1, q2⟩, p0, p1, p2⟩ := HQ.out w1 (Below.refl _ _)
  subst hw1
  go_wp2_with fail
  refine (keptI_any g1 n1 a1 c1 l1 _ _ (by omega) HP.out.h1.wf HC.out.o1 HP.out.h1).mono ?_
  rintro e w' ⟨rfl, m1, rfl⟩
  clear q0 q1 q2 p0 p1 p2
  revert HC HP HB HQ
  generalize (w.alloc (.cells #[.slice (some ⟨g1, 0, none⟩) n1 (n1 + 1), .slice (some ⟨g2, 0, none⟩) n2 (n2 + 1), .slice (some ⟨g3, 0, none⟩) n3 (n3 + 1)] 38)).alloc (.cells #[.slice a1 n1 c1, .slice a2 n2 c2, .slice a3 n3 c3] 36) = w1
  intro HC HP HB HQ
  obtain ⟨⟨_, q1, _⟩, _, p1, _⟩ := HQ.out _ (drewN_is w1 m1)
  go_wp2_with fail
  refine (keptI_any g2 n2 a2 c2 l2 _ _ (by omega) HP.out.h2.wf (HC.out.mono (drewN_is w1 m1)).o2 (HP.out.mono (drewN_is w1 m1)).h2).mono ?_
  rintro e w' ⟨rfl, m2, rfl⟩
  clear q1 p1
  rw [drewN_two]
  obtain ⟨⟨_, _, q2⟩, _, _, p2⟩ := HQ.out _ (drewN_is w1 (m1 + m2))
  go_wp2_with fail
  refine (keptI_any g3 n3 a3 c3 l3 _ _ (by omega) HP.out.h3.wf (HC.out.mono (drewN_is w1 (m1 + m2))).o3 (HP.out.mono (drewN_is w1 (m1 + m2))).h3).mono ?_
  rintro e w' ⟨rfl, m3, rfl⟩
  rw [drewN_two]
  go_wp2
  go_ret
  exact ⟨rfl, below_then HB.out (drewN_is w1 _)⟩
end Go.Proofs.YtdojhglpiejfjaaDoor
end

section
namespace Go.Proofs.YtdojhglpiejfjaaDoor
open Go.ChangeShapes Go.WideShapes Go.ChangeAt Go.RowKit

/-- A JPEG's codes as they lie. -/
def codesV (c : Nat → Int) (v : Value) : Value := .agg #[.int .i64 (c 0), .int .i64 (c 1), .int .i64 (c 2), .int .i64 (c 3), .int .i64 (c 4), .int .i64 (c 5), .int .i64 (c 6), .int .i64 (c 7), .int .i64 (c 8), .int .i64 (c 9), .int .i64 (c 10), .int .i64 (c 11), .int .i64 (c 12), .int .i64 (c 13), .int .i64 (c 14), .int .i64 (c 15), v]
section
variable {H : Type} {enc : TypeId × Value → H} {P : Program} {W : World}
theorem sized_parts {ts : List TypeId} {ds : List (DataW H)} (h : (DataW.weightsEach P ts ds).all (· ≤ reachBytes) = true) {j : Nat} {t : TypeId} {fs : Array Field} {parts : List (DataW H)} (ht : ts[j]? = some t) (hd : ds[j]? = some (.agg parts)) (hu : P.underlying t = some (.struct fs)) :
    (DataW.weightsEach P (fs.toList.map (·.type)) parts).all (· ≤ reachBytes) = true := by
  rw [List.all_eq_true] at h ⊢
  intro n hn
  exact h n (DataW.weights_mem_each ht hd n (by simpa [DataW.weights, hu] using hn))
theorem slice_cell {t e : TypeId} {fuel : Nat} {c0 : Value} {x : DataW H × List MemPlace} (ht : P.underlying t = some (.slice e)) (h : DataW.trod enc P W 0 (fun _ => true) true fuel t [c0] = some x) : ∃ a len cap, c0 = .slice a len cap := by
  rcases Go.Deep.open_slice ht h with ⟨hcs, _⟩ | ⟨ad, len, cap, m, n, D, Pl, hcs, _⟩
  · exact ⟨_, _, _, by simpa using hcs⟩
  · exact ⟨_, _, _, by simpa using hcs⟩
theorem open_read {t e0 e1 : TypeId} {f0 f1 f2 f3 : Field} (ht : P.underlying t = some (.struct #[f0, f1, f2, f3])) (hc : P.cellsOf t = 4)
    (u0 : P.underlying f0.type = some (.slice e0)) (x0 : P.underlying e0 = some (.int .i64)) (k0 : P.cellsOf e0 = 1) (b0 : P.bytesOf e0 = 8)
    (u1 : P.underlying f1.type = some (.slice e1)) (x1 : P.underlying e1 = some (.int .u8)) (k1 : P.cellsOf e1 = 1) (b1 : P.bytesOf e1 = 1)
    (u2 : P.underlying f2.type = some .bool) (u3 : P.underlying f3.type = some (.int .i64))
    (c0 : P.cellsOf f0.type = 1) (c1 : P.cellsOf f1.type = 1) (c2 : P.cellsOf f2.type = 1) (c3 : P.cellsOf f3.type = 1) (o0 : f0.offset = 0) (o1 : f1.offset = 1) (o2 : f2.offset = 2) (o3 : f3.offset = 3)
    {v : Value} {r : Reach} {base : Nat} (hv : Value.okWide P W r base t v) {d : DataW H} {p : List MemPlace} (h : DataW.Trod enc P W 0 (fun _ => true) true t v d p)
    {ts : List TypeId} {ds : List (DataW H)} (hsz : (DataW.weightsEach P ts ds).all (· ≤ reachBytes) = true) (j : Nat) (htj : ts[j]? = some t) (hdj : ds[j]? = some d) :
    ∃ a len cap l a2 len2 cap2 l2 hi n, v = .agg #[.slice a len cap, .slice a2 len2 cap2, .bool hi, .int .i64 n] ∧ Is .i64 W a len cap l ∧ cap * 8 ≤ 140737488351232 ∧ Bs W a2 len2 cap2 l2 ∧ cap2 ≤ 140737488351232 ∧ (Lit.int .i64 n).wf = true := by
  obtain ⟨cs, rfl, hcs⟩ := okWide_struct ht hv
  rw [hc] at hcs
  obtain ⟨v0, v1, v2, v3, rfl⟩ := Go.Joins.array4 hcs
  obtain ⟨fuel, hf⟩ := h
  obtain ⟨y0, y1, y2, y3, n, hx, _, t0, t1, t2, t3⟩ := Go.Joins.trod_struct4 ht hf
  rw [o0, c0] at t0
  rw [o1, c1] at t1
  rw [o2, c2] at t2
  rw [o3, c3] at t3
  simp only [Value.cells, List.drop_zero, List.drop_succ_cons, List.take_succ_cons, List.take_zero] at t0 t1 t2 t3
  simp only [Prod.mk.injEq] at hx
  obtain ⟨rfl, _⟩ := hx
  have hp := sized_parts hsz htj hdj ht
  obtain ⟨a, len, cap, rfl⟩ := slice_cell u0 t0
  obtain ⟨a2, len2, cap2, rfl⟩ := slice_cell u1 t1
  obtain ⟨b, e2, _⟩ := DataW.trod_bool u2 t2
  obtain ⟨m, e3, _, w3⟩ := DataW.trod_int u3 t3
  simp only [List.cons.injEq, and_true] at e2 e3
  subst e2 e3
  obtain ⟨l, hl, hr⟩ := open_is u0 x0 k0 b0 (d := y0.1) (p := y0.2) ⟨n, t0⟩ hp 0 rfl rfl
  obtain ⟨l2, hl2, hr2⟩ := open_bs u1 x1 k1 b1 (d := y1.1) (p := y1.2) ⟨n, t1⟩ hp 1 rfl rfl
  exact ⟨a, len, cap, l, a2, len2, cap2, l2, b, m, rfl, hl, hr, hl2, hr2, w3⟩
set_option maxHeartbeats 1000000 in
theorem open_codes {t e e1 : TypeId} {f0 f1 : Field} (ht : P.underlying t = some (.struct #[f0, f1])) (hc : P.cellsOf t = 17)
    (u0 : P.underlying f0.type = some (.array 16 e)) (x0 : P.underlying e = some (.int .i64)) (k0 : P.cellsOf e = 1)
    (u1 : P.underlying f1.type = some (.slice e1)) (x1 : P.underlying e1 = some (.int .u8)) (k1 : P.cellsOf e1 = 1) (b1 : P.bytesOf e1 = 1)
    (c0 : P.cellsOf f0.type = 16) (c1 : P.cellsOf f1.type = 1) (o0 : f0.offset = 0) (o1 : f1.offset = 16)
    {v : Value} {r : Reach} {base : Nat} (hv : Value.okWide P W r base t v) {d : DataW H} {p : List MemPlace} (h : DataW.Trod enc P W 0 (fun _ => true) true t v d p)
    {ts : List TypeId} {ds : List (DataW H)} (hsz : (DataW.weightsEach P ts ds).all (· ≤ reachBytes) = true) (j : Nat) (htj : ts[j]? = some t) (hdj : ds[j]? = some d) :
    ∃ c a len cap l, v = codesV c (.slice a len cap) ∧ (∀ i, i < 16 → (Lit.int .i64 (c i)).wf = true) ∧ Bs W a len cap l ∧ cap ≤ 140737488351232 := by
  obtain ⟨cs, rfl, hcs⟩ := okWide_struct ht hv
  rw [hc] at hcs
  obtain ⟨fuel, hf⟩ := h
  obtain ⟨y0, y1, n, hx, _, t0, t1⟩ := Go.ChangeShapes.trod_struct2 ht hf
  rw [o0, c0] at t0
  rw [o1, c1] at t1
  simp only [Prod.mk.injEq] at hx
  obtain ⟨rfl, _⟩ := hx
  have hp := sized_parts hsz htj hdj ht
  obtain ⟨xs, m, _, _, _, hxl, hat⟩ := DataW.trod_array u0 t0
  have ho : ∀ i, i < 16 → ∃ n, (((Value.agg cs).cells.toList.drop 0).take 16 |>.drop i).take 1 = [.int .i64 n] ∧ True ∧ (Lit.int .i64 n).wf = true := by
    intro i hi
    have h1 := hat i hi
    rw [k0, Nat.mul_one, List.getElem?_eq_getElem (by omega)] at h1
    obtain ⟨n, e1, _, w1⟩ := DataW.trod_int x0 h1
    exact ⟨n, e1, trivial, w1⟩
  clear hat t0
  obtain ⟨l⟩ := cs
  match l, hcs with
  | [c0, c1, c2, c3, c4, c5, c6, c7, c8, c9, c10, c11, c12, c13, c14, c15, c16], _ =>
    simp only [Value.cells] at ho t1
    obtain ⟨n0, e0, _, w0⟩ := ho 0 (by omega)
    simp only [List.drop_zero, List.drop_succ_cons, List.take_succ_cons, List.take_zero, List.cons.injEq, and_true] at e0
    subst e0
    obtain ⟨n1, e1, _, w1⟩ := ho 1 (by omega)
    simp only [List.drop_zero, List.drop_succ_cons, List.take_succ_cons, List.take_zero, List.cons.injEq, and_true] at e1
    subst e1
    obtain ⟨n2, e2, _, w2⟩ := ho 2 (by omega)
    simp only [List.drop_zero, List.drop_succ_cons, List.take_succ_cons, List.take_zero, List.cons.injEq, and_true] at e2
    subst e2
    obtain ⟨n3, e3, _, w3⟩ := ho 3 (by omega)
    simp only [List.drop_zero, List.drop_succ_cons, List.take_succ_cons, List.take_zero, List.cons.injEq, and_true] at e3
    subst e3
    obtain ⟨n4, e4, _, w4⟩ := ho 4 (by omega)
    simp only [List.drop_zero, List.drop_succ_cons, List.take_succ_cons, List.take_zero, List.cons.injEq, and_true] at e4
    subst e4
    obtain ⟨n5, e5, _, w5⟩ := ho 5 (by omega)
    simp only [List.drop_zero, List.drop_succ_cons, List.take_succ_cons, List.take_zero, List.cons.injEq, and_true] at e5
    subst e5
    obtain ⟨n6, e6, _, w6⟩ := ho 6 (by omega)
    simp only [List.drop_zero, List.drop_succ_cons, List.take_succ_cons, List.take_zero, List.cons.injEq, and_true] at e6
    subst e6
    obtain ⟨n7, e7, _, w7⟩ := ho 7 (by omega)
    simp only [List.drop_zero, List.drop_succ_cons, List.take_succ_cons, List.take_zero, List.cons.injEq, and_true] at e7
    subst e7
    obtain ⟨n8, e8, _, w8⟩ := ho 8 (by omega)
    simp only [List.drop_zero, List.drop_succ_cons, List.take_succ_cons, List.take_zero, List.cons.injEq, and_true] at e8
    subst e8
    obtain ⟨n9, e9, _, w9⟩ := ho 9 (by omega)
    simp only [List.drop_zero, List.drop_succ_cons, List.take_succ_cons, List.take_zero, List.cons.injEq, and_true] at e9
    subst e9
    obtain ⟨n10, e10, _, w10⟩ := ho 10 (by omega)
    simp only [List.drop_zero, List.drop_succ_cons, List.take_succ_cons, List.take_zero, List.cons.injEq, and_true] at e10
    subst e10
    obtain ⟨n11, e11, _, w11⟩ := ho 11 (by omega)
    simp only [List.drop_zero, List.drop_succ_cons, List.take_succ_cons, List.take_zero, List.cons.injEq, and_true] at e11
    subst e11
    obtain ⟨n12, e12, _, w12⟩ := ho 12 (by omega)
    simp only [List.drop_zero, List.drop_succ_cons, List.take_succ_cons, List.take_zero, List.cons.injEq, and_true] at e12
    subst e12
    obtain ⟨n13, e13, _, w13⟩ := ho 13 (by omega)
    simp only [List.drop_zero, List.drop_succ_cons, List.take_succ_cons, List.take_zero, List.cons.injEq, and_true] at e13
    subst e13
    obtain ⟨n14, e14, _, w14⟩ := ho 14 (by omega)
    simp only [List.drop_zero, List.drop_succ_cons, List.take_succ_cons, List.take_zero, List.cons.injEq, and_true] at e14
    subst e14
    obtain ⟨n15, e15, _, w15⟩ := ho 15 (by omega)
    simp only [List.drop_zero, List.drop_succ_cons, List.take_succ_cons, List.take_zero, List.cons.injEq, and_true] at e15
    subst e15
    simp only [List.drop_zero, List.drop_succ_cons, List.take_succ_cons, List.take_zero] at t1
    obtain ⟨a, len, cap, rfl⟩ := slice_cell u1 t1
    obtain ⟨l, hl, hr⟩ := open_bs u1 x1 k1 b1 (d := y1.1) (p := y1.2) ⟨n, t1⟩ hp 1 rfl rfl
    refine ⟨fun i => [n0, n1, n2, n3, n4, n5, n6, n7, n8, n9, n10, n11, n12, n13, n14, n15].getD i 0, a, len, cap, l, rfl, fun i hi => ?_, hl, hr⟩
    match i, hi with
    | 0, _ => exact w0
    | 1, _ => exact w1
    | 2, _ => exact w2
    | 3, _ => exact w3
    | 4, _ => exact w4
    | 5, _ => exact w5
    | 6, _ => exact w6
    | 7, _ => exact w7
    | 8, _ => exact w8
    | 9, _ => exact w9
    | 10, _ => exact w10
    | 11, _ => exact w11
    | 12, _ => exact w12
    | 13, _ => exact w13
    | 14, _ => exact w14
    | 15, _ => exact w15
    | i + 16, h => omega
end
end Go.Proofs.YtdojhglpiejfjaaDoor
end

section
namespace Go.Proofs.YtdojhglpiejfjaaDoor
open Go.ChangeShapes Go.WideShapes Go.ChangeAt Go.RowKit
variable {H : Type} {enc : TypeId × Value → H} {P : Program} {W : World}
set_option maxHeartbeats 1000000 in
theorem open_pr3 {t e0 e1 e2 : TypeId} {f0 f1 f2 : Field} (ht : P.underlying t = some (.struct #[f0, f1, f2])) (hc : P.cellsOf t = 3)
    (u0 : P.underlying f0.type = some (.slice e0)) (x0 : P.underlying e0 = some (.int .i64)) (k0 : P.cellsOf e0 = 1) (b0 : P.bytesOf e0 = 8)
    (u1 : P.underlying f1.type = some (.slice e1)) (x1 : P.underlying e1 = some (.int .i64)) (k1 : P.cellsOf e1 = 1) (b1 : P.bytesOf e1 = 8)
    (u2 : P.underlying f2.type = some (.slice e2)) (x2 : P.underlying e2 = some (.int .i64)) (k2 : P.cellsOf e2 = 1) (b2 : P.bytesOf e2 = 8)
    (c0 : P.cellsOf f0.type = 1) (c1 : P.cellsOf f1.type = 1) (c2 : P.cellsOf f2.type = 1) (o0 : f0.offset = 0) (o1 : f1.offset = 1) (o2 : f2.offset = 2)
    {v : Value} {r : Reach} {base : Nat} (hv : Value.okWide P W r base t v) {d : DataW H} {p : List MemPlace} (h : DataW.Trod enc P W 0 (fun _ => true) true t v d p)
    {ts : List TypeId} {ds : List (DataW H)} (hsz : (DataW.weightsEach P ts ds).all (· ≤ reachBytes) = true) (j : Nat) (htj : ts[j]? = some t) (hdj : ds[j]? = some d) :
    ∃ a len cap l a2 len2 cap2 l2 a3 len3 cap3 l3, v = .agg #[.slice a len cap, .slice a2 len2 cap2, .slice a3 len3 cap3] ∧ Is .i64 W a len cap l ∧ cap * 8 ≤ 140737488351232 ∧ Is .i64 W a2 len2 cap2 l2 ∧ cap2 * 8 ≤ 140737488351232 ∧ Is .i64 W a3 len3 cap3 l3 ∧ cap3 * 8 ≤ 140737488351232 := by
  obtain ⟨cs, rfl, hcs⟩ := okWide_struct ht hv
  rw [hc] at hcs
  obtain ⟨v0, v1, v2, rfl⟩ := Go.Joins.array3 hcs
  obtain ⟨fuel, hf⟩ := h
  obtain ⟨y0, y1, y2, n, hx, _, t0, t1, t2⟩ := Go.Deep.trod_struct3 ht hf
  rw [o0, c0] at t0
  rw [o1, c1] at t1
  rw [o2, c2] at t2
  simp only [Value.cells, List.drop_zero, List.drop_succ_cons, List.take_succ_cons, List.take_zero] at t0 t1 t2
  simp only [Prod.mk.injEq] at hx
  obtain ⟨rfl, _⟩ := hx
  have hp := sized_parts hsz htj hdj ht
  obtain ⟨a, len, cap, rfl⟩ := slice_cell u0 t0
  obtain ⟨a2, len2, cap2, rfl⟩ := slice_cell u1 t1
  obtain ⟨a3, len3, cap3, rfl⟩ := slice_cell u2 t2
  obtain ⟨l, hl, hr⟩ := open_is u0 x0 k0 b0 (d := y0.1) (p := y0.2) ⟨n, t0⟩ hp 0 rfl rfl
  obtain ⟨l2, hl2, hr2⟩ := open_is u1 x1 k1 b1 (d := y1.1) (p := y1.2) ⟨n, t1⟩ hp 1 rfl rfl
  obtain ⟨l3, hl3, hr3⟩ := open_is u2 x2 k2 b2 (d := y2.1) (p := y2.2) ⟨n, t2⟩ hp 2 rfl rfl
  exact ⟨a, len, cap, l, a2, len2, cap2, l2, a3, len3, cap3, l3, rfl, hl, hr, hl2, hr2, hl3, hr3⟩
end Go.Proofs.YtdojhglpiejfjaaDoor
end
