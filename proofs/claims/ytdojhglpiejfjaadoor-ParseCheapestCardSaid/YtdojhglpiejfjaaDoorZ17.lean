/- parse.Cheapest: its contract. burnishlaw09.alive: the chapter's example. The document's greedy parse: its contract. burnishnum.Tokens at the same tokens twice. A region that draws its order and ends in one store: loads are taken first under a condition on the world that the last operation may break. Appends to rows of the call's own, as one step of a drawn region; a byte as a source. The type of a slice of bytes.  burnishref09's Price of a token: its contract. -/
import Derived.Test.YtdojhglpiejfjaaDoorZ16
import Derived.Deep.QuietTactic
import Derived.BigQuiet
import Derived.Deep.RegionHeld3
import Derived.StillTail
import Derived.Test.YtdojhglpiejfjaaDoorProg
set_option linter.unusedSimpArgs false
set_option linter.unusedVariables false
section
namespace Go.Proofs.YtdojhglpiejfjaaDoor
open Go.RowKit Go.Shelf

theorem cheap1_any (A fb base N : Nat) (T : List Tok) (p : Nat) (w : World) (hA : Boxed w A 25 (.slice (some ⟨fb, 0, none⟩) N N)) (hown : w.ownsRow base 46 2 (.slice (some ⟨fb, 0, none⟩) N N) N (tks T)) (hp : p < N) :
    Calls Tryd.prog 32 #[.int .i64 (p : Nat), .pointer (some ⟨A, 0, none⟩)] w fun e w' => e = .returned (.agg #[.int .i64 (T.getD p (0, 0)).1, .int .i64 (T.getD p (0, 0)).2]) ∧ Below w.heap.size w w' := by
  have hb0 := below_alloc w (.cells #[.int .i64 0, .int .i64 0] 46)
  have hr0 : (w.alloc (.cells #[.int .i64 0, .int .i64 0] 46)).heap[w.heap.size]? = some (.cells #[.int .i64 0, .int .i64 0] 46 (0, 0)) := heap_alloc_last w _
  have cA : (w.alloc (.cells #[.int .i64 0, .int .i64 0] 46)).cell? ⟨A, 0, none⟩ = some (.slice (some ⟨fb, 0, none⟩) N N) := by rw [cell_of_row _ _ _ _ _ (0, 0) ((hb0.block A hA.lt).trans hA)]; rfl
  obtain ⟨t0, t1⟩ := og_tok (own_below hown hb0) p hp
  have HB0 := Lib.hid hb0
  have HR0 := Lib.hid hr0
  clear hA hown hb0 hr0
  generalize T.getD p (0, 0) = t at *
  obtain ⟨x, y⟩ := t
  simp only at t0 t1
  go_enter Tryd.func32, Tryd.ntmps32
  go_wp2
  exact bodyPost_ret (res_tok _ rfl _ _ _ _ _ _ rfl (heap_alloc_last w _)) rfl ⟨rfl, below_alloc w _⟩
section
variable {w : World} {a1 a2 a3 : Option Addr} {n1 c1 n2 c2 n3 c3 : Nat} {l1 l2 l3 : List Int}
def CheapPost (w : World) (N : Nat) (l : List UInt8) (l1 l2 l3 : List Int) (e : Ending) (w' : World) : Prop :=
  (Pa.good l1 l2 l3 = false ∧ e = .returned (.tuple #[.slice none 0 0, .iface 43 (.int .i64 6)]) ∧ Below w.heap.size w w') ∨
  (Pa.good l1 l2 l3 = true ∧ ∃ v K Rs C T, e = .returned (.tuple #[v, .nilIface]) ∧ Recs l N N Rs ∧ Pz.Dn (Pa.pr l1 l2 l3) (gb l) N (fun p => ra Rs (p : Int)) 0 C T ∧
    w'.ownsRow w.heap.size 46 2 v K (tks (Pz.toks (fun p => T.getD p (0, 0)) K)) ∧ Pz.pos (fun p => T.getD p (0, 0)) K = N ∧ (∀ j, j < K → Pz.pos (fun p => T.getD p (0, 0)) j < N) ∧ Below w.heap.size w w')
set_option maxHeartbeats 2000000 in
theorem cheapest_any (a : Option Addr) (N cap : Nat) (l : List UInt8) (ht : Bs w a N cap l) (hN : N ≤ 1048576) (h : Pa.Pr w a1 n1 c1 l1 a2 n2 c2 l2 a3 n3 c3 l3) (hdb : Db w) (hdl : 0 < w.heap.size) :
    Calls Tryd.prog 14 #[.slice a N cap, .agg #[.slice a1 n1 c1, .slice a2 n2 c2, .slice a3 n3 c3]] w (CheapPost w N l l1 l2 l3) := by
  have hb0 := below_alloc w (.cells #[.slice a1 n1 c1, .slice a2 n2 c2, .slice a3 n3 c3] 38)
  have hr0 : (w.alloc (.cells #[.slice a1 n1 c1, .slice a2 n2 c2, .slice a3 n3 c3] 38)).heap[w.heap.size]? = some (.cells #[.slice a1 n1 c1, .slice a2 n2 c2, .slice a3 n3 c3] 38 (0, 0)) := heap_alloc_last w _
  have p0 : (w.alloc (.cells #[.slice a1 n1 c1, .slice a2 n2 c2, .slice a3 n3 c3] 38)).cell? ⟨w.heap.size, 0, none⟩ = some (.slice a1 n1 c1) := by rw [cell_of_row _ _ _ _ _ (0, 0) hr0]; rfl
  have p1 : (w.alloc (.cells #[.slice a1 n1 c1, .slice a2 n2 c2, .slice a3 n3 c3] 38)).cell? ⟨w.heap.size, 1, none⟩ = some (.slice a2 n2 c2) := by rw [cell_of_row _ _ _ _ _ (0, 0) hr0]; rfl
  have p2 : (w.alloc (.cells #[.slice a1 n1 c1, .slice a2 n2 c2, .slice a3 n3 c3] 38)).cell? ⟨w.heap.size, 2, none⟩ = some (.slice a3 n3 c3) := by rw [cell_of_row _ _ _ _ _ (0, 0) hr0]; rfl
  have HV := Lib.hid (valid_any (h.mono hb0))
  have HP := Lib.hid (h.mono hb0)
  have HT := Lib.hid (ht.mono hb0)
  have HD := Lib.hid (And.intro (hdb.kept hb0 hdl) (Nat.lt_of_lt_of_le hdl hb0.size))
  have HB0 := Lib.hid hb0
  have HR0 := Lib.hid hr0
  have HLT : Hid (w.heap.size < (w.alloc (.cells #[.slice a1 n1 c1, .slice a2 n2 c2, .slice a3 n3 c3] 38)).heap.size) := Lib.hid (by simp)
  clear h ht hdb hdl hb0 hr0
  go_enter Tryd.func14, Tryd.ntmps14
  go_wp2_with fail
  refine HV.out.mono ?_
  rintro e w1 ⟨rfl, hb1⟩
  have HB1 := Lib.hid (below_then HB0.out hb1)
  have HR1 := Lib.hid ((hb1.block w.heap.size HLT.out).trans HR0.out)
  have HT1 := Lib.hid (HT.out.mono hb1)
  have HP1 := Lib.hid (HP.out.mono hb1)
  have HNF := Lib.hid (newFinder_all a N cap l w1 HT1.out hN (HD.out.1.kept hb1 HD.out.2) (Nat.lt_of_lt_of_le HD.out.2 hb1.size))
  clear hb1 p0 p1 p2 HV HT HP HD HB0 HR0 HLT
  cases hgd : Pa.good l1 l2 l3
  · have HG := Lib.hid hgd
    clear hgd
    go_wp2
    go_ret2
    exact .inl ⟨HG.out, rfl, HB1.out⟩
  · have HG := Lib.hid hgd
    clear hgd
    go_wp2_with fail
    refine HNF.out.mono ?_
    rintro e w2 ⟨gf, eb, v, Rs, rfl, hfd, _, _, hb2⟩
    have hr2 := (hb2.block w.heap.size (Array.getElem?_eq_some_iff.1 HR1.out).1).trans HR1.out
    have p0 : w2.cell? ⟨w.heap.size, 0, none⟩ = some (.slice a1 n1 c1) := by rw [cell_of_row _ _ _ _ _ (0, 0) hr2]; rfl
    have p1 : w2.cell? ⟨w.heap.size, 1, none⟩ = some (.slice a2 n2 c2) := by rw [cell_of_row _ _ _ _ _ (0, 0) hr2]; rfl
    have p2 : w2.cell? ⟨w.heap.size, 2, none⟩ = some (.slice a3 n3 c3) := by rw [cell_of_row _ _ _ _ _ (0, 0) hr2]; rfl
    have HCH := Lib.hid (choose_any a N cap l gf eb _ v Rs (HT1.out.mono hb2) (HP1.out.mono hb2) HG.out hfd hN)
    have HRC := Lib.hid hfd.recs
    have HB2 := Lib.hid (below_then HB1.out hb2)
    clear hfd hb2 hr2 HNF HT1 HP1 HR1
    go_wp2_with fail
    refine HCH.out.mono ?_
    rintro e w3 ⟨fb, C, T, rfl, hown, hdn, hb3⟩
    clear p0 p1 p2 HCH
    have hb4 := below_alloc w3 (.cells #[.slice (some ⟨fb, 0, none⟩) N N] 25)
    have hA4 : Boxed (w3.alloc (.cells #[.slice (some ⟨fb, 0, none⟩) N N] 25)) w3.heap.size 25 (.slice (some ⟨fb, 0, none⟩) N N) := Boxed.new w3 _ _
    have HTX := Lib.hid (Pz.txt_of HRC.out)
    have HDN := Lib.hid hdn
    have HCC : Hid (∀ w' p, Below (w3.alloc (.cells #[.slice (some ⟨fb, 0, none⟩) N N] 25)).heap.size (w3.alloc (.cells #[.slice (some ⟨fb, 0, none⟩) N N] 25)) w' → p < N → Calls Tryd.prog 32 #[.int .i64 (p : Nat), .pointer (some ⟨w3.heap.size, 0, none⟩)] w' fun e w'' => e = .returned (.agg #[.int .i64 ((fun p => T.getD p (0, 0)) p).1, .int .i64 ((fun p => T.getD p (0, 0)) p).2]) ∧ Below w'.heap.size w' w'') :=
      Lib.hid (fun w' p hb hp => cheap1_any _ fb _ N T p w' ((hb.block _ hA4.lt).trans hA4) (own_below (own_below hown hb4) hb) hp)
    have HB4 := Lib.hid (below_then HB2.out (below_then hb3 hb4))
    clear hown hdn hb3 hb4 hA4 HB2
    go_wp2_with fail
    refine (follow_cheap _ N (fun p => T.getD p (0, 0)) _ hN HCC.out (fun p hp => ⟨(Pz.Cho.fits HTX.out hp (HDN.out.cho p (Nat.zero_le _) hp)).1, Pz.Cho.tok HTX.out hp (HDN.out.cho p (Nat.zero_le _) hp)⟩)).mono ?_
    rintro e w5 ⟨v5, K, rfl, hown5, hK, hJ, hb5⟩
    go_wp2
    go_ret2
    exact .inr ⟨HG.out, _, K, Rs, C, T, rfl, HRC.out, HDN.out, own_base hown5 (fun g hg => Nat.le_trans HB4.out.size (hown5.lt g hg).1), hK, hJ, below_then HB4.out hb5⟩
end
end Go.Proofs.YtdojhglpiejfjaaDoor
end

section
namespace Go.Proofs.YtdojhglpiejfjaaDoor
open Go.RowKit Go.Maps

theorem tks_wf {l : List Tok} (h : ∀ t ∈ l, Tk.isTok t = true) : ∀ i, i < l.length → (Lit.int .i64 (l.getD i (0, 0)).1).wf = true ∧ (Lit.int .i64 (l.getD i (0, 0)).2).wf = true := fun i hi => by
  have : l.getD i (0, 0) ∈ l := by simp [List.getD, List.getElem?_eq_getElem hi]
  exact tok_wf (h _ this)
theorem toks_tok {N : Nat} {F : Nat → Tok} (hF : ∀ p, p < N → Tk.isTok (F p) = true) {K : Nat} (hj : ∀ j, j < K → Pz.pos F j < N) : ∀ t ∈ Pz.toks F K, Tk.isTok t = true := fun t ht => by
  unfold Pz.toks at ht
  obtain ⟨j, hj2, rfl⟩ := List.mem_map.1 ht
  exact hF _ (hj j (List.mem_range.1 hj2))
set_option maxRecDepth 100000 in
set_option maxHeartbeats 4000000 in
theorem alive09_any (w : World) (hdb : Db w) (hdl : 0 < w.heap.size) :
    Calls Tryd.prog 6 #[] w fun e w' => e = .returned (.bool true) ∧ Below w.heap.size w w' := by
  have HDB : Hid (∀ w', Below w.heap.size w w' → Db w' ∧ 0 < w'.heap.size) := Lib.hid (fun w' hb => ⟨hdb.kept hb hdl, Nat.lt_of_lt_of_le hdl hb.size⟩)
  clear hdb hdl
  go_enter Tryd.func6, Tryd.ntmps6
  have kc := fun (w : World) (C : Array Value) (n c : Nat) => Lib.run_convert_bytes_const (P := Tryd.prog) w 22 5 C n c Tryd.underlying22 Tryd.underlying5
  go_wp2_with fail
  have hb0 := bs_new w _ rfl exl 5 (9, 10) 9 rfl (by omega) _ rfl
  have hdb1 := HDB.out _ (below_alloc w (.cells (bvs exl).toArray 5 (9, 10)))
  refine (greedy_any _ 9 9 exl _ hb0 (by omega) hdb1.1 hdb1.2).mono ?_
  rintro e w1 ⟨v, K, Rs, rfl, hrc, hown, hK, hJ, hb1⟩
  obtain ⟨g1, g2, g3⟩ := ex_gr hrc
  obtain rfl := Pz.pos_one hK g1
  rw [g3] at hown
  obtain ⟨va, vc, rfl, hts⟩ := own_ts2 hown (tks_wf (l := [(0, 97), (0, 98), (0, 99), (6, 3)]) (by decide))
  have HB1 := Lib.hid (below_then (below_alloc w _) hb1)
  have HTS := Lib.hid hts
  clear hb0 hdb1 hown hK hJ hrc g1 g2 g3 hts hb1
  go_wp2_with fail
  have hb2 := below_alloc w1 (.cells (bvs exl).toArray 5 (9, 10))
  have HT2 := Lib.hid (bs_new w1 _ rfl exl 5 (9, 10) 9 rfl (by omega) _ rfl)
  have HTS2 := Lib.hid (HTS.out.mono hb2)
  have HB2 := Lib.hid (below_then HB1.out hb2)
  have hsh : (w1.alloc (.cells #[.int .u8 97, .int .u8 98, .int .u8 99, .int .u8 97, .int .u8 98, .int .u8 99, .int .u8 97, .int .u8 98, .int .u8 99] 5 (9, 10))) = (w1.alloc (.cells (bvs exl).toArray 5 (9, 10))) := rfl
  rw [hsh]
  revert HT2 HTS2 HB2
  clear hb2 hsh HTS HB1
  generalize w1.alloc (.cells (bvs exl).toArray 5 (9, 10)) = w2
  generalize w1.heap.size = tb
  intro HT2 HTS2 HB2
  refine (flat_any 9 3 1 w2 (by omega) (by omega) (by omega)).mono ?_
  rintro e w3 ⟨v1, v2, v3, rfl, o1, o2, o3, hb3⟩
  obtain ⟨a1, c1, a2, c2, a3, c3, rfl, rfl, rfl, hpr⟩ := Pa.pr_of_own o1 o2 o3 ex_price.1 (by omega) (by omega) (by omega)
  have HPR := Lib.hid hpr
  have HT3 := Lib.hid (HT2.out.mono hb3)
  have HTS3 := Lib.hid (HTS2.out.mono hb3)
  have HB3 := Lib.hid (below_then HB2.out hb3)
  clear o1 o2 o3 hpr hb3 HT2 HTS2 HB2
  go_wp2_with fail
  refine (prices_any HPR.out (by omega) (by omega) (by omega)).mono ?_
  rintro e w4 ⟨y1, y2, y3, rfl, hcp, hb4⟩
  have HPQ := Lib.hid (Pa.pr_of_cp hcp (Pa.wf_of_rng (Pa.good_parts ex_price.1).1) (Pa.wf_of_rng (Pa.good_parts ex_price.1).2.1) (Pa.wf_of_rng (Pa.good_parts ex_price.1).2.2.1) (by omega) (by omega) (by omega))
  have HT4 := Lib.hid (HT3.out.mono hb4)
  have HTS4 := Lib.hid (HTS3.out.mono hb4)
  have HB4 := Lib.hid (below_then HB3.out hb4)
  clear hcp hb4 HT3 HTS3 HB3 HPR
  have hdb4 := HDB.out _ HB4.out
  have HCP := Lib.hid (cheapest_any _ 9 9 exl HT4.out (by omega) HPQ.out hdb4.1 hdb4.2)
  clear hdb4
  go_wp2_with fail
  refine HCP.out.mono ?_
  rintro e w5 (⟨hn, _⟩ | ⟨_, v5, K5, Rs5, C5, T5, rfl, hrc5, hdn5, hown5, hK5, hJ5, hb5⟩)
  · exact absurd hn (by rw [ex_price.1]; simp)
  have hk5 := ex_cheap hrc5 hdn5 hK5 hJ5
  have htx5 := Pz.txt_of hrc5
  obtain ⟨a5, c5, rfl, _⟩ := own_ts2 hown5 (by
    have := tks_wf (toks_tok (fun p hp => Pz.Cho.tok htx5 hp (hdn5.cho p (Nat.zero_le _) hp)) hJ5)
    rwa [Pz.toks_length] at this)
  have HB5 := Lib.hid (below_then HB4.out hb5)
  obtain ⟨b, off, rfl, hbl, t0, t1⟩ := (HTS4.out.mono hb5).at' 3 (by omega)
  have d1 : decide (0 < K5) = true := by simp; omega
  have d2 : decide (K5 < 9) = true := by simp; omega
  clear hrc5 hdn5 hown5 hK5 hJ5 hb5 htx5 HTS4 HT4 HCP HPQ hbl
  simp only [List.getD_cons_succ, List.getD_cons_zero] at t0 t1
  go_wp2
  go_ret
  exact ⟨by simp; omega, HB5.out⟩
end Go.Proofs.YtdojhglpiejfjaaDoor
end

section
namespace Go.Proofs.YtdojhglpiejfjaaDoor
open Go.RowKit

theorem wf_small (n : Nat) (h : n ≤ 1000000000) : (Lit.int .i64 (n : Int)).wf = true := by
  simp only [Lit.wf, IntKind.min, IntKind.max, IntKind.signed, IntKind.bits, Bool.and_eq_true, decide_eq_true_eq, if_true]
  simp
  omega
set_option maxHeartbeats 4000000 in
theorem refGreedy_any (a : Option Addr) (N cap : Nat) (l : List UInt8) (Rs : List (List (Nat × Nat))) (w : World) (h : Bs w a N cap l) (hN : N ≤ 1048576) (hR : Recs l N N Rs) :
    Calls Tryd.prog 10 #[.slice a N cap] w (FollowPost w N (Pz.gr (gb l) (fun p => ra Rs (p : Int)))) := by
  have HTX := Lib.hid (Pz.txt_of hR)
  have HT := Lib.hid h
  have HRR := Lib.hid hR
  obtain ⟨F, hF⟩ : ∃ F, Pz.gr (gb l) (fun p => ra Rs (p : Int)) = F := ⟨_, rfl⟩
  have HFC : Hid (∀ p, p < N → Pz.Cho (gb l) (fun p => ra Rs (p : Int)) p (F p) ∧ (Lz.top (ra Rs (p : Int)) - 2 = 0 → F p = (0, (gb l p : Int))) ∧ (Lz.top (ra Rs (p : Int)) - 2 ≠ 0 → F p = ((Lz.top (ra Rs (p : Int)) : Int), ((Lz.far (ra Rs (p : Int)) (Lz.top (ra Rs (p : Int))) : Nat) : Int)))) := Lib.hid (by rw [← hF]; exact fun p hp => Pz.gr_cho HTX.out hp)
  rw [hF]
  clear h hR hF
  go_enter Tryd.func10, Tryd.ntmps10
  go_wp2
  go_loopw [3, 4] (fun ov av wr => ∃ k : Nat, av = .int .i64 ((Pz.pos F k : Nat) : Int) ∧ Pz.pos F k ≤ N ∧ wr.ownsRow w.heap.size 46 2 ov k (tks (Pz.toks F k)) ∧ Hid (∀ j, j < k → Pz.pos F j < N) ∧ Hid (Below w.heap.size w wr)) (fun _ av _ => N - (intOf av).toNat)
  case atStart => exact ⟨0, rfl, Nat.zero_le _, World.ownsRow_nil _ _ _ _, Lib.hid (fun j h => by omega), Lib.hid (Below.refl _ _)⟩
  case round =>
    obtain ⟨k, rfl, hp, hown, HJ, HB⟩ := hrel
    by_cases hlt : Pz.pos F k < N
    · have HP1 : Hid (Pz.pos F (k + 1) = Pz.pos F k + Pz.sp (F (Pz.pos F k))) := Lib.hid rfl
      have HT1 := Lib.hid (Pz.toks_next F k)
      have HJ1 : Hid (∀ j, j < k + 1 → Pz.pos F j < N) := Lib.hid (fun j hj => by
        rcases Nat.lt_succ_iff_lt_or_eq.1 hj with h | rfl
        · exact HJ.out j h
        · exact hlt)
      have hkn : k < 1048576 := by have := Pz.pos_ge F k; omega
      have HCP := Lib.hid (HFC.out _ hlt)
      generalize hpk : Pz.pos F k = pk at *
      clear hpk HJ hp
      have HRA := Lib.hid (recAt_of HRR.out (pk : Int))
      have HFT := Lib.hid (Pz.Cho.fits HTX.out hlt HCP.out.1)
      have HCM : Hid (∀ n, 3 ≤ n → n ≤ Lz.top (ra Rs (pk : Int)) → n ≤ 258) := Lib.hid (fun n h3 hn => (Pz.Cho.mat HTX.out hlt h3 hn).2.1)
      have HRN := Lib.hid (refNear_any a N cap l (pk : Int) (ra Rs (pk : Int)) wr (HT.out.mono HB.out) (wf_small pk (by omega)) hN HRA.out)
      go_wp2_with fail
      refine HRN.out.mono ?_
      rintro e w4 ⟨v4, rfl, own4, hb4⟩
      obtain ⟨a4, c4, rfl, his⟩ := own_is own4 (wantI_wf HRA.out)
      have hle4 := his.hle
      have HIS := Lib.hid his
      have HWG := Lib.hid (fun i hi => wantI_getD (ra Rs (pk : Int)) i hi)
      have hown4 := own_below hown hb4
      have HB4 := Lib.hid (below_then HB.out hb4)
      have hz4 := hb4.size
      have hzw := HB.out.size
      obtain ⟨va, vc, rfl⟩ : ∃ va vc, u3 = .slice va k vc := by
        rcases own_nil_or hown4 with ⟨h1, h2⟩ | ⟨g', cap', h1, _⟩
        · exact ⟨none, 0, by rw [h1, h2]⟩
        · exact ⟨_, _, h1⟩
      clear his own4 hown hb4 HRN
      have hwl := recAt_top HRA.out
      generalize Lz.top (ra Rs (pk : Int)) = tp at *
      have HFP := HCP
      clear HCP
      generalize F pk = t at *
      by_cases h0 : tp - 2 = 0
      · have ht : t = (0, (gb l pk : Int)) := HFP.out.2.1 h0
        subst ht
        obtain ⟨b, off, rfl, hbl, t0⟩ := (HT.out.mono HB4.out).at' pk hlt
        have HSP : Hid (Pz.pos F (k + 1) = pk + 1) := Lib.hid (by rw [HP1.out]; rfl)
        have d0 : decide (0 < tp - 2) = false := by simp; omega
        have hsrc : SrcRow (w4.alloc (.cells #[.int .i64 0, .int .i64 ((gb l pk : Nat) : Int)] 46)) (some ⟨w4.heap.size, 0, none⟩) 1 1 (tks [(0, ((gb l pk : Nat) : Int))]) 2 := src_tok w4 (((0 : Int), ((gb l pk : Nat) : Int)))
        have hz := gb_lt l pk
        clear HIS HWG HFP HP1 HCM h0 hbl
        generalize gb l pk = z at *
        go_wp2_with (at_builtin; refine wpl_append tyT rfl _ _ rfl (own_below hown4 (below_alloc w4 (.cells #[.int .i64 0, .int .i64 (z : Nat)] 46))) hsrc rfl rfl (by omega) (by omega) (by simp; omega) ?_)
        intro v' w' own' hg' _
        obtain ⟨va', vc', rfl⟩ : ∃ va' vc', v' = .slice va' (k + 1) vc' := by
          rcases own_nil_or own' with ⟨h1, h2⟩ | ⟨g', cap', h1, _⟩
          · omega
          · exact ⟨_, _, h1⟩
        have HB5 : Hid (Below w.heap.size w w') := Lib.hid ((below_then HB4.out (below_alloc w4 _)).grown hg' (by simp; omega) (fun r e => (hown4.lt r e).1))
        rw [← tks_append, ← HT1.out] at own'
        have HO := Lib.hid own'
        have HFT1 : Hid (pk + 1 ≤ N) := Lib.hid (by omega)
        clear own' hg' hsrc hown4 HFT t0
        go_wp2
        go_roundw
        case rel => exact ⟨k + 1, by rw [HSP.out]; go_num, by rw [HSP.out]; exact HFT1.out, HO.out, HJ1, HB5⟩
        case measure => simp [intOf]; omega
      · have ht : t = ((tp : Int), ((Lz.far (ra Rs (pk : Int)) tp : Nat) : Int)) := HFP.out.2.2 h0
        subst ht
        obtain ⟨j, rfl⟩ : ∃ j, tp = j + 3 := ⟨tp - 3, by omega⟩
        have e0 : j + 3 - 2 = j + 1 := by omega
        rw [e0] at hle4 HIS HWG h0 hwl
        have htp := HCM.out (j + 3) (by omega) (Nat.le_refl _)
        obtain ⟨b4, o4, rfl, hb4l, hc4⟩ := HIS.out.at' j (by omega)
        rw [HWG.out j (by omega), show 3 + j = j + 3 by omega] at hc4
        have hsp : Pz.sp (((j + 3 : Nat) : Int), ((Lz.far (ra Rs (pk : Int)) (j + 3) : Nat) : Int)) = j + 3 := by unfold Pz.sp; simp; omega
        rw [hsp] at HP1 HFT
        have hft := HFT.out.1
        have e3 : ((j + 3 - 2 : Nat) : Int) = (j : Int) + 1 := by omega
        generalize Lz.far (ra Rs (pk : Int)) (j + 3) = fr at *
        have hsrc : SrcRow (w4.alloc (.cells #[.int .i64 (2 + ((j : Int) + 1)), .int .i64 ((fr : Nat) : Int)] 46)) (some ⟨w4.heap.size, 0, none⟩) 1 1 (tks [(((j + 3 : Nat) : Int), ((fr : Nat) : Int))]) 2 := by
          rw [show 2 + ((j : Int) + 1) = ((j + 3 : Nat) : Int) by omega]; exact src_tok w4 (((j + 3 : Nat) : Int), ((fr : Nat) : Int))
        rw [e0]
        rw [show ((j + 3 : Nat) : Int) = (j : Int) + 3 by omega] at HT1
        clear HIS HWG HFP HCM h0 hsp HFT hb4l e0 e3
        have HFT1 := Lib.hid hft
        have i0 : (0 : Int) ≤ (j : Int) := by omega
        have i1 : (j : Int) < (j : Int) + 1 := by omega
        go_wp2_with (at_builtin; refine wpl_append tyT rfl _ _ rfl (own_below hown4 (below_alloc w4 (.cells #[.int .i64 (2 + ((j : Int) + 1)), .int .i64 (fr : Nat)] 46))) hsrc rfl rfl (by omega) (by omega) (by simp; omega) ?_)
        intro v' w' own' hg' _
        obtain ⟨va', vc', rfl⟩ : ∃ va' vc', v' = .slice va' (k + 1) vc' := by
          rcases own_nil_or own' with ⟨h1, h2⟩ | ⟨g', cap', h1, _⟩
          · omega
          · exact ⟨_, _, h1⟩
        have HB5 : Hid (Below w.heap.size w w') := Lib.hid ((below_then HB4.out (below_alloc w4 _)).grown hg' (by simp; omega) (fun r e => (hown4.lt r e).1))
        rw [← tks_append, ← HT1.out] at own'
        have HO := Lib.hid own'
        clear own' hg' hsrc hown4 hc4
        go_wp2
        go_roundw
        case rel => exact ⟨k + 1, by rw [HP1.out]; go_num, by rw [HP1.out]; exact HFT1.out, HO.out, HJ1, HB5⟩
        case measure => simp [intOf]; omega
    · have hpn : Pz.pos F k = N := by omega
      clear HFC
      generalize hpk : Pz.pos F k = pk at *
      have HPK := Lib.hid hpk
      clear hpk
      subst hpn
      clear hp
      have hlt2 : decide ((pk : Int) < (pk : Int)) = false := by simp
      go_wp2
      go_ret
      exact ⟨_, k, rfl, hown, HPK.out, HJ.out, HB.out⟩
end Go.Proofs.YtdojhglpiejfjaaDoor
end

section
namespace Go.Proofs.YtdojhglpiejfjaaDoor
open Go.RowKit

set_option maxHeartbeats 1000000 in
theorem tokens_any (a b : Option Addr) (len cap cap' : Nat) (l : List Tok) (w : World) (h : Ts2 w a len cap l) (h' : Ts2 w b len cap' l) (hr : len ≤ 140737488355328) :
    Calls Tryd.prog 9 #[.slice a len cap, .slice b len cap'] w fun e w' => e = .returned (.bool true) ∧ ∃ n, w' = w.drewN n := by
  have H := Lib.hid h
  have H' := Lib.hid h'
  clear h h'
  go_enter Tryd.func9, Tryd.ntmps9
  go_wp2
  go_loopw [13] (fun i wr => ∃ k : Nat, k ≤ len ∧ i = .int .i64 k ∧ ∃ n, wr = w.drewN n) (fun i _ => len - (intOf i).toNat)
  case atStart => exact ⟨0, by omega, rfl, 0, rfl⟩
  case round =>
    obtain ⟨k, hk, rfl, dn, rfl⟩ := hrel
    by_cases hlt : k < len
    · obtain ⟨b1, off1, rfl, _, c0, c1⟩ := H.out.at' k hlt
      obtain ⟨b2, off2, rfl, _, d0, d1⟩ := H'.out.at' k hlt
      generalize l.getD k (0, 0) = t at *
      obtain ⟨x, y⟩ := t
      dsimp only at c0 c1 d0 d1
      go_wp2
      go_quiet (fail)
      go_wp2
      go_roundw
      case rel => exact ⟨k + 1, by omega, by go_num, _, rfl⟩
      case measure => simp [intOf]; omega
    · obtain rfl : len = k := by omega
      go_wp2
      go_ret
      exact ⟨rfl, _, rfl⟩
end Go.Proofs.YtdojhglpiejfjaaDoor
end

section
namespace Go.Proofs.YtdojhglpiejfjaaDoor
open Go

section
variable {P : Program} {ops : Array Oper} {Q : Exit → Act → World → Prop} {md : Region.Mode} {S : World → Prop} {n : Nat}
/-- Whatever order is picked; S holds behind every operation but the n-th. -/
def anyJ (P : Program) (md : Region.Mode) (ops : Array Oper) (Q : Exit → Act → World → Prop) (S : World → Prop) (n : Nat) : Nat → Array Bool → Act → World → Prop
  | 0, listed, a, w => Region.ready md ops listed = [] ∧ Q .normal a w
  | fuel + 1, listed, a, w =>
    (Region.ready md ops listed = [] → Q .normal a w) ∧
    ∀ i ∈ Region.ready md ops listed, wpOp P ops Q i (fun a' w' => (i ≠ n → S w') ∧ anyJ P md ops Q S n fuel (listed.setIfInBounds i true) a' w') a w
theorem any_of_J : ∀ (fuel : Nat) (listed : Array Bool) (a : Act) (w : World), anyJ P md ops Q S n fuel listed a w → wpAny P md ops Q fuel listed a w
  | 0, _, _, _, h => h
  | fuel + 1, _, _, _, h => ⟨h.1, fun i hi => wpOp_mono (fun a' w' h' => any_of_J fuel _ a' w' h'.2) (h.2 i hi)⟩
theorem J_first {i : Nat} {oi : Oper} {v : Value} (hi : ops[i]? = some oi) (hsel : ∀ (j : Nat) (o : Oper) cs b, ops[j]? = some o → o.op ≠ .select cs b)
    (hQ : ∀ c a w, Q (.panic c) (a.put oi.dst v) w → Q (.panic c) a w) (hn : Region.waitsFor md ops n i = true) :
    ∀ (fuel : Nat) (listed : Array Bool) (a : Act) (w : World),
      (∀ j oj, ops[j]? = some oj → j ≠ i → listed.getD j true = false → (∀ e ∈ oj.after, Region.binds md e = true → e.on ≠ i) → oi.apart ops oj = true) →
      i ∈ Region.ready md ops listed → YieldsIf P ops S oi v a → S w →
      anyJ P md ops Q S n fuel (listed.setIfInBounds i true) (a.put oi.dst v) w → anyJ P md ops Q S n (fuel + 1) listed a w := by
  intro fuel
  induction fuel with
  | zero =>
    intro listed a w _ hr hy hS H
    refine ⟨fun h => (by rw [h] at hr; cases hr), fun j hj => ?_⟩
    by_cases hji : j = i
    · subst hji; exact hy.wpOp hi hS ⟨fun _ => hS, H⟩
    · have := ready_mono hj hji
      rw [H.1] at this
      cases this
  | succ fuel ih =>
    intro listed a w hfree hr hy hS H
    refine ⟨fun h => (by rw [h] at hr; cases hr), fun j hj => ?_⟩
    by_cases hji : j = i
    · subst hji; exact hy.wpOp hi hS ⟨fun _ => hS, H⟩
    · have h1 := H.2 j (ready_mono hj hji)
      obtain ⟨hjun, oj, hoj, hall⟩ := mem_ready.1 hj
      have hnot : ∀ e ∈ oj.after, Region.binds md e = true → e.on ≠ i := fun e he hb heq => by
        have h1 := hall e he hb
        have h0 := (mem_ready.1 hr).1
        rw [heq] at h1
        rcases Nat.lt_or_ge i listed.size with h' | h'
        · simp [h'] at h0 h1; rw [h0] at h1; cases h1
        · simp [Array.getElem?_eq_none h'] at h1
      have hjn : j ≠ n := fun e => by
        subst e
        obtain ⟨o2, ho2, e2, he2, hb2, hon⟩ := Region.waitsFor_spec hn
        rw [hoj] at ho2
        cases ho2
        exact hnot e2 he2 hb2 hon
      have h2 := wpOp_putIf hoj (hfree j oj hoj hji hjun hnot) (fun cs b => hsel i oi cs b hi) (fun cs b => hsel j oj cs b hoj) hQ hy h1
      have hfree' : ∀ k ok, ops[k]? = some ok → k ≠ i → (listed.setIfInBounds j true).getD k true = false →
          (∀ e ∈ ok.after, Region.binds md e = true → e.on ≠ i) → oi.apart ops ok = true := fun k ok hk hki hun hno => by
        refine hfree k ok hk hki ?_ hno
        by_cases hjk : j = k
        · subst hjk; exact hjun
        · rw [getD_set_ne true hjk] at hun; exact hun
      refine wpOp_mono (fun a' w' h3 => ⟨h3.2.1, ih (listed.setIfInBounds j true) a' w' hfree' (ready_mono hr (Ne.symm hji)) h3.1 (h3.2.1 hjn) ?_⟩) h2
      rw [Array.setIfInBounds_comm _ _ hji]
      exact h3.2.2
/-- Number i is taken first. -/
theorem J_take {i : Nat} {oi : Oper} {v : Value} {fuel : Nat} {listed : Array Bool} {a : Act} {w : World} (hi : ops[i]? = some oi)
    (hs : Region.noSelect ops = true) (hf : Region.free md ops listed i = true) (hr : (Region.ready md ops listed).contains i = true) (hn : Region.waitsFor md ops n i = true)
    (hQ : ∀ c a w, Q (.panic c) (a.put oi.dst v) w → Q (.panic c) a w) (hS : S w) (hw : Region.wanted oi (yielded ops a.tmps) = true) (hy : ∀ w, S w → (execOp a.eval oi).run P w = .ok (.value v) w)
    (h : anyJ P md ops Q S n fuel (listed.setIfInBounds i true) (a.put oi.dst v) w) : anyJ P md ops Q S n (fuel + 1) listed a w :=
  J_first hi (Region.noSelect_spec hs) hQ hn fuel listed a w (Region.free_spec hi hf) (by simpa using hr) (.inl ⟨hw, hy⟩) hS h
/-- One alone may come up. -/
theorem J_step {i : Nat} {o : Oper} {fuel : Nat} {listed : Array Bool} {a : Act} {w : World} (hr : Region.ready md ops listed = [i]) (ho : ops[i]? = some o)
    (h : ∀ K' : Act → World → Prop, Shut (∀ a w, (i ≠ n → S w) → ((i ≠ n → S w) → anyJ P md ops Q S n fuel (listed.setIfInBounds i true) a w) → K' a w) → if Region.wanted o (yielded ops a.tmps) = true then Oper.wp P o a w K' Q else K' (a.put o.dst undef) w) :
    anyJ P md ops Q S n (fuel + 1) listed a w := by
  refine ⟨fun h0 => (by rw [hr] at h0; cases h0), fun j hj => ?_⟩
  rw [hr] at hj
  obtain rfl : j = i := by simpa using hj
  exact wpOp_step ho (fun K' hK => h K' (fun a w hS hW => hK a w ⟨hS, hW hS⟩))
theorem J_done {listed : Array Bool} {a : Act} {w : World} (hr : Region.ready md ops listed = []) (h : Q .normal a w) : ∀ fuel, anyJ P md ops Q S n fuel listed a w
  | 0 => ⟨hr, h⟩
  | _ + 1 => ⟨fun _ => h, by rw [hr]; simp⟩
theorem region_J {id : Nat} {a : Act} {w : World} (n : Nat) (S : World → Prop) (hm : P.follows .mixedOrders = true) (h : anyJ P .any ops Q S n ops.size (Array.replicate ops.size false) a w.drew) : (Code.region id ops true).wp P Q a w :=
  wp_region_any hm (any_of_J _ _ _ _ h)
end
end Go.Proofs.YtdojhglpiejfjaaDoor
end

section
namespace Go.Proofs.YtdojhglpiejfjaaDoor
open Go.RowKit
set_option linter.unusedSimpArgs false
set_option linter.unusedVariables false

section
variable {P : Program} {w : World} {ops : Array Oper} {o : Oper} {a : Act} {Q : Exit → Act → World → Prop} {K : Act → World → Prop} {E : Prop}
variable {t e : TypeId} {z : Value} {size by' : Nat}
/-- append, as one step of a region that draws. -/
theorem step_app (R : RowTy P t e z size by') (hg : o.guard = none) (s x : Operand) (hop : o.op = Op.call { callee := Callee.builtin Builtin.append, args := #[s, x], argTypes := #[t, t] })
    {base n : Nat} {v : Value} {xs : List Value} (hown : w.ownsRow base e size v n xs) {ad : Addr} {m c : Nat} {news : List Value} (hsrc : SrcRow w (some ad) m c news size)
    (hs : a.eval s = v) (hx : a.eval x = .slice (some ad) m c) (hm : 0 < m) (h63 : n + m ≤ 9223372036854775807) (hbytes : (n + m) * by' ≤ 140737488355328) (hbase : base ≤ w.heap.size)
    (hK : ∀ v' w', w'.ownsRow base e size v' (n + m) (xs ++ news) → Step w w' v v' → K (a.put o.dst v') w') :
    if Region.wanted o (yielded ops a.tmps) = true then Oper.wp P o a w K Q else E := by
  have hw : Region.wanted o (yielded ops a.tmps) = true := by simp [Region.wanted, hg]
  rw [if_pos hw]
  obtain ⟨v', w', hrun, r1, r2⟩ := run_app R o.type hown hsrc hm h63 hbytes hbase
  unfold Oper.wp
  simp [execOp, hop, resolve, invoke, builtin, hs, hx, hrun, Result.andThen]
  exact hK _ _ r1 r2
end
/-- What an append leaves of the elder row. -/
theorem step_keeps {w w' : World} {base gv n cap m : Nat} {e : TypeId} {xs news : List Value} {v' : Value} (h : w.ownsRow base e 1 (.slice (some ⟨gv, 0, none⟩) n cap) n xs) (h' : w'.ownsRow base e 1 v' (n + m) (xs ++ news)) (r : Step w w' (.slice (some ⟨gv, 0, none⟩) n cap) v') (q : Nat) (hq : q < n) :
    w'.cell? ⟨gv, q, none⟩ = w.cell? ⟨gv, q, none⟩ := by
  have hx : xs.length = n := by have := h.1; simpa using this
  have h0 := h.cellAt q (by omega)
  rcases r with ⟨g, k, c, k', e1, e2, _⟩ | ⟨_, hg⟩
  · simp only [Value.slice.injEq, Option.some.injEq, Addr.mk.injEq, and_true] at e1
    obtain ⟨rfl, _, rfl⟩ := e1
    rcases own_nil_or h' with ⟨e3, _⟩ | ⟨g2, c2, e3, _⟩
    · rw [e3] at e2; simp at e2
    rw [e3] at e2 h'
    simp only [Value.slice.injEq, Option.some.injEq, Addr.mk.injEq, and_true] at e2
    obtain ⟨rfl, _, rfl⟩ := e2
    have h1 := h'.cellAt q (by omega)
    rw [h0, h1, List.getElem?_append_left (by omega)]
  · have hlt := (h.lt gv rfl).2
    exact World.cell?_of_block (hg.block gv hlt (by simp))
theorem dn_is (w : World) (n : Nat) : Below w.heap.size w (w.drewN n) := ⟨rfl, rfl, rfl, Nat.le_refl _, fun _ _ => rfl⟩
theorem tyU : RowTy Tryd.prog 22 5 (.int .u8 0) 1 1 := ⟨Tryd.underlying22, by kernel_rfl, rfl, by omega⟩
theorem src_b (w : World) (x : Nat) (hx : x < 256) : SrcRow (w.alloc (.cells #[Value.int .u8 (x : Nat)] 5)) (some ⟨w.heap.size, 0, none⟩) 1 1 (bvs [UInt8.ofNat x]) 1 := by
  have e : (bvs [UInt8.ofNat x]).toArray = #[Value.int .u8 (x : Nat)] := by simp [bvs, Nat.mod_eq_of_lt hx]
  have := (bs_new w w.heap.size rfl [UInt8.ofNat x] 5 (0, 0) 1 rfl (by omega) _ e).src
  exact this
end Go.Proofs.YtdojhglpiejfjaaDoor
end

section
namespace Go.Proofs.YtdojhglpiejfjaaDoor
open Go.RowKit

theorem tyB : RowTy Tryd.prog 22 5 (.int .u8 0) 1 1 := ⟨Tryd.underlying22, by kernel_rfl, rfl, by omega⟩
end Go.Proofs.YtdojhglpiejfjaaDoor
end

section
namespace Go.Proofs.YtdojhglpiejfjaaDoor
open Go.RowKit


def CopyPost (w : World) (len : Nat) (l : List UInt8) (e : Ending) (w' : World) : Prop :=
  ∃ g, e = .returned (.slice (some ⟨g, 0, none⟩) len (len + 2)) ∧ w'.ownsRow w.heap.size 5 1 (.slice (some ⟨g, 0, none⟩) (len + 2) (len + 2)) (len + 2) (bvs (l ++ [165, 90])) ∧ Below w.heap.size w w'

set_option maxHeartbeats 400000 in
theorem copy_any (a : Option Addr) (len cap : Nat) (l : List UInt8) (w : World) (h : Bs w a len cap l) (hr : len ≤ 140737488355328) :
    Calls Tryd.prog 7 #[.slice a len cap] w (CopyPost w len l) := by
  have hc := h.hcap
  have hle := h.hle
  have HL := Lib.hid h.hlen
  go_enter Tryd.func7, Tryd.ntmps7
  go_wp2_with (at_make; refine wpl_make tyB rfl _ _ rfl w.heap.size .i64 .i64 _ (len + 2) rfl rfl (by omega) (by omega) (by omega) (Nat.le_refl _) ?_)
  intro w1 hown1 hg1
  have hb1 : Below w.heap.size w w1 := (Below.refl _ _).grown hg1 (Nat.le_refl _) (by simp)
  have hz1 := hb1.size
  have hs1 := (h.mono hb1).src
  go_wp2_with (at_builtin; refine wpl_fits tyB rfl _ _ rfl hown1 hs1 rfl rfl (by omega) ?_)
  intro w2 hown2 hg2
  have hb2 : Below w.heap.size w w2 := hb1.grown hg2 hz1 (by simp)
  have hz2 := hb2.size
  have hs2 : SrcRow (w2.alloc (.cells #[Value.int IntKind.u8 165, Value.int IntKind.u8 90] 5)) (some ⟨w2.heap.size, 0, none⟩) 2 2 (bvs [165, 90]) 1 := src_new w2 _ 5 2 2 1 rfl (bvs_one [165, 90])
  go_wp2_with (at_builtin; refine wpl_fits tyB rfl _ _ rfl (hown2.alloc _) hs2 rfl rfl (by omega) ?_)
  intro w3 hown3 hg3
  have hb3 : Below w.heap.size w w3 := (hb2.alloc hz2 _).grown hg3 (by simp; omega) (by simp)
  rw [← bvs_append] at hown3
  clear hg1 hg2 hg3 hown1 hown2 hs1 hs2
  go_wp2
  go_ret
  exact ⟨_, rfl, hown3, hb3⟩

theorem kept_any (g len : Nat) (a : Option Addr) (cap : Nat) (l : List UInt8) (w : World) (base : Nat) (hr : len ≤ 140737488355328)
    (hown : w.ownsRow base 5 1 (.slice (some ⟨g, 0, none⟩) (len + 2) (len + 2)) (len + 2) (bvs (l ++ [165, 90]))) (h : Bs w a len cap l) :
    Calls Tryd.prog 11 #[.slice (some ⟨g, 0, none⟩) len (len + 2), .slice a len cap] w fun e w' => e = .returned (.bool true) ∧ w = w' := by
  have hc := h.hcap
  have hle := h.hle
  have hlen := h.hlen
  have hm := bs_of_own hown (by omega) len (by omega)
  rw [List.take_append_of_le_length (by omega), List.take_of_length_le (by omega)] at hm
  have c1 := conv_bs (P := Tryd.prog) hm 22 9 5 Tryd.underlying22 Tryd.underlying5 Tryd.underlying9
  have c2 := conv_bs (P := Tryd.prog) h 22 9 5 Tryd.underlying22 Tryd.underlying5 Tryd.underlying9
  have e1 : w.cell? ⟨g, len, none⟩ = some (.int .u8 165) := by
    rw [hown.cellAt len (by omega), bvs_get _ _ (by simp; omega), gb]; simp [← hlen]
  have e2 : w.cell? ⟨g, len + 1, none⟩ = some (.int .u8 90) := by
    rw [hown.cellAt (len + 1) (by omega), bvs_get _ _ (by simp; omega), gb]; simp [← hlen]
  clear hm hown
  have HL := Lib.hid hlen
  clear hlen
  go_enter Tryd.func11, Tryd.ntmps11
  go_wp2
  go_ret
  exact ⟨rfl, rfl⟩
end Go.Proofs.YtdojhglpiejfjaaDoor
end

section
namespace Go.Proofs.YtdojhglpiejfjaaDoor
open Go.RowKit
variable {w : World} {a1 a2 a3 : Option Addr} {n1 c1 n2 c2 n3 c3 : Nat} {l1 l2 l3 : List Int}
set_option maxRecDepth 100000 in
set_option maxHeartbeats 4000000 in
theorem refPrice_any (x y : Int) (htok : Tk.isTok (x, y) = true) (hg : Pa.good l1 l2 l3 = true) (h : Pa.Pr w a1 n1 c1 l1 a2 n2 c2 l2 a3 n3 c3 l3) :
    Calls Tryd.prog 19 #[.agg #[.slice a1 n1 c1, .slice a2 n2 c2, .slice a3 n3 c3], .agg #[.int .i64 x, .int .i64 y]] w fun e w' => e = .returned (.int .i64 (Pa.pr l1 l2 l3 (x, y))) ∧ Below w.heap.size w w' := by
  have hb := below_alloc2 w (.cells #[.slice a1 n1 c1, .slice a2 n2 c2, .slice a3 n3 c3] 36) (.cells #[.int .i64 x, .int .i64 y] 46)
  have hrp : ((w.alloc (.cells #[.slice a1 n1 c1, .slice a2 n2 c2, .slice a3 n3 c3] 36)).alloc (.cells #[.int .i64 x, .int .i64 y] 46)).heap[w.heap.size]? = some (.cells #[.slice a1 n1 c1, .slice a2 n2 c2, .slice a3 n3 c3] 36 (0, 0)) := heap_alloc2_old w _ _
  have hrt : ((w.alloc (.cells #[.slice a1 n1 c1, .slice a2 n2 c2, .slice a3 n3 c3] 36)).alloc (.cells #[.int .i64 x, .int .i64 y] 46)).heap[w.heap.size + 1]? = some (.cells #[.int .i64 x, .int .i64 y] 46 (0, 0)) := heap_alloc2_new w _ _
  have HP := Lib.hid (h.mono hb)
  have HL := Lib.hid (And.intro h.h1.hlen (And.intro h.h2.hlen h.h3.hlen))
  have HGD := Lib.hid (Pa.good_parts hg)
  have htr := Tk.tok_range htok
  simp only at htr
  clear h hg htok
  generalize hw1 : (w.alloc (.cells #[.slice a1 n1 c1, .slice a2 n2 c2, .slice a3 n3 c3] 36)).alloc (.cells #[.int .i64 x, .int .i64 y] 46) = w1 at *
  have p0 : w1.cell? ⟨w.heap.size, 0, none⟩ = some (.slice a1 n1 c1) := by rw [cell_of_row _ _ _ _ _ (0, 0) hrp]; rfl
  have p1 : w1.cell? ⟨w.heap.size, 1, none⟩ = some (.slice a2 n2 c2) := by rw [cell_of_row _ _ _ _ _ (0, 0) hrp]; rfl
  have p2 : w1.cell? ⟨w.heap.size, 2, none⟩ = some (.slice a3 n3 c3) := by rw [cell_of_row _ _ _ _ _ (0, 0) hrp]; rfl
  have t0 : w1.cell? ⟨w.heap.size + 1, 0, none⟩ = some (.int .i64 x) := by rw [cell_of_row _ _ _ _ _ (0, 0) hrt]; rfl
  have t1 : w1.cell? ⟨w.heap.size + 1, 1, none⟩ = some (.int .i64 y) := by rw [cell_of_row _ _ _ _ _ (0, 0) hrt]; rfl
  have HZ : Hid (w.heap.size + 1 < w1.heap.size) := Lib.hid (Array.getElem?_eq_some_iff.1 hrt).1
  have HB := Lib.hid hb
  clear hb hrp hrt
  by_cases hx : x = 0
  · subst hx
    obtain ⟨j, rfl⟩ : ∃ j : Nat, y = (j : Int) := ⟨y.toNat, by omega⟩
    have hn1 : n1 = 256 := by rw [← HL.out.1]; exact HGD.out.2.2.2.1
    obtain ⟨q, qo, rfl, _, hcq⟩ := HP.out.h1.at' j (by omega)
    have hpe : Pa.pr l1 l2 l3 (0, (j : Int)) = l1.getD j 0 := by unfold Pa.pr; rw [if_pos rfl, Int.toNat_natCast]
    rw [hpe]
    have hjn : j < n1 := by omega
    have i1 : (0 : Int) ≤ (j : Int) := by omega
    have i2 : (j : Int) < (n1 : Int) := by omega
    clear hpe hn1
    generalize l1.getD j 0 = z at *
    subst hw1
    go_enter Tryd.func19, Tryd.ntmps19
    go_wp2
    go_ret
    exact ⟨rfl, HB.out⟩
  · obtain ⟨xn, rfl⟩ : ∃ xn : Nat, x = (xn : Int) := ⟨x.toNat, by omega⟩
    obtain ⟨yn, rfl⟩ : ∃ yn : Nat, y = (yn : Int) := ⟨y.toNat, by omega⟩
    have hd30 : Sy.dsy yn < 30 := by have := Sy.cnt_le Sy.db 29 yn; unfold Sy.dsy; omega
    have hpe : Pa.pr l1 l2 l3 ((xn : Int), (yn : Int)) = l2.getD xn 0 + l3.getD (Sy.dsy yn) 0 := by unfold Pa.pr; rw [if_neg hx, Int.toNat_natCast, Int.toNat_natCast]
    rw [hpe]
    have HD : Hid (∀ X, Calls Tryd.prog 36 #[.int .i64 (yn : Nat)] X fun e w' => e = .returned (.int .i64 ((Sy.dsy yn : Nat) : Int)) ∧ Below X.heap.size X w') := Lib.hid (fun X => refDist_any yn X (by omega) (by omega))
    have dx0 : ((xn : Int) == 0) = false := by simp; omega
    generalize Sy.dsy yn = dq at *
    have hn2 : n2 = 259 := by rw [← HL.out.2.1]; exact HGD.out.2.2.2.2.1
    have hn3 : n3 = 30 := by rw [← HL.out.2.2]; exact HGD.out.2.2.2.2.2
    obtain ⟨q, qo, rfl, hql, hcq⟩ := HP.out.h2.at' xn (by omega)
    obtain ⟨u, uo, rfl, hul, hcu⟩ := HP.out.h3.at' dq (by omega)
    have i1 : (0 : Int) ≤ (xn : Int) := by omega
    have i2 : (xn : Int) < (n2 : Int) := by omega
    have i3 : (0 : Int) ≤ (dq : Int) := by omega
    have i4 : (dq : Int) < (n3 : Int) := by omega
    have hz1 := Pa.rng_get HGD.out.2.1 xn
    have hz2 := Pa.rng_get HGD.out.2.2.1 dq
    have HU := Lib.hid (And.intro hql hul)
    clear hn2 hn3 hpe hx HP hql hul
    generalize l2.getD xn 0 = z at *
    generalize l3.getD dq 0 = z2 at *
    have w1' : IntKind.i64.wrap (z + z2) = z + z2 := IntWalk.i64_in _ ⟨by omega, by omega⟩
    subst hw1
    go_enter Tryd.func19, Tryd.ntmps19
    go_wp2_with fail
    revert p0 p1 p2 t0 t1 HZ HB HU hcq hcu
    generalize (w.alloc (.cells #[.slice a1 n1 c1, .slice (some ⟨q, qo, none⟩) n2 c2, .slice (some ⟨u, uo, none⟩) n3 c3] 36)).alloc (.cells #[.int .i64 xn, .int .i64 yn] 46) = w1
    intro p0 HZ HB t0 t1 p1 p2 HU hcq hcu
    have HZZ : Hid (w.heap.size < w1.heap.size) := Lib.hid (by have := HZ.out; omega)
    go_region_held3 (fun w' => w'.cell? ⟨w.heap.size, 1, none⟩ = some (.slice (some ⟨q, qo, none⟩) n2 c2) ∧ w'.cell? ⟨w.heap.size, 2, none⟩ = some (.slice (some ⟨u, uo, none⟩) n3 c3) ∧ w'.cell? ⟨w.heap.size + 1, 0, none⟩ = some (.int .i64 xn) ∧ w'.cell? ⟨w.heap.size + 1, 1, none⟩ = some (.int .i64 yn) ∧ w'.cell? ⟨q, qo + xn, none⟩ = some (.int .i64 z) ∧ w'.cell? ⟨u, uo + dq, none⟩ = some (.int .i64 z2)) (go_keep)
      (first | (go_at_call 36; refine (HD.out _).mono ?_; rintro e w3 ⟨rfl, hb3⟩; have HB3 := Lib.hid hb3; have s1 := (hb3.cell (p := ⟨w.heap.size, 1, none⟩) HZZ.out).trans p1; have s2 := (hb3.cell (p := ⟨w.heap.size, 2, none⟩) HZZ.out).trans p2; have s3 := (hb3.cell (p := ⟨w.heap.size + 1, 0, none⟩) HZ.out).trans t0; have s4 := (hb3.cell (p := ⟨w.heap.size + 1, 1, none⟩) HZ.out).trans t1; have s5 := (hb3.cell (p := ⟨q, qo + xn, none⟩) HU.out.1).trans hcq; have s6 := (hb3.cell (p := ⟨u, uo + dq, none⟩) HU.out.2).trans hcu; clear hb3))
    go_wp2
    go_ret
    exact ⟨rfl, below_then HB.out (below_then (Below.drew (Below.refl w1.heap.size w1)) HB3.out)⟩
end Go.Proofs.YtdojhglpiejfjaaDoor
end
