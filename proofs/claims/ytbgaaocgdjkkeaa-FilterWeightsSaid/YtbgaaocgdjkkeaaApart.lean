/- burnishnum.Apart: its contract: lists of the call's own, each in a block of its own, are apart. -/
import Derived.Test.YtbgaaocgdjkkeaaNum
import Derived.Test.YtbgaaocgdjkkeaaApartMem
import Derived.Deep.QuietTactic
import Derived.BigQuiet
namespace Go.Proofs.Ytbgaaocgdjkkeaa
open Go.RowKit

theorem tyBB : RowTy Try.prog 52 24 (.slice none 0 0) 1 24 := ⟨Try.underlying52, by kernel_rfl, rfl, by omega⟩

def lenOf : Value → Nat | .slice _ n _ => n | _ => 0

set_option maxHeartbeats 4000000 in
set_option maxRecDepth 100000 in
theorem apart_any (B ob off n cap : Nat) (ss : List Sl) (w : World) (hn : ss.length = n) (hn2 : n ≤ 1000) (hB : B ≤ w.heap.size) (hob : B ≤ ob) (hobl : ob < w.heap.size) (hd : Dj ss)
    (hne : ∀ i, i < ss.length → (nth ss i).val.ownBlock ≠ some ob) (hlen : ∀ i, i < ss.length → (nth ss i).len ≤ 140737488355000)
    (ho : Outer w ob off ss) (hl : Ls w B 5 ss (fun i => (nth ss i).l)) :
    Calls Try.prog 25 #[.slice (some ⟨ob, off, none⟩) n cap] w fun e w' => e = .returned (.bool true) ∧ Below B w w' := by
  have HN := Lib.hid hn
  have HD := Lib.hid hd
  have HNE := Lib.hid hne
  have HLEN := Lib.hid hlen
  have HO := Lib.hid ho
  have HL := Lib.hid hl
  clear hn hd hne hlen ho hl
  go_enter Try.func25, Try.ntmps25
  go_wp2
  go_loopw [15] (fun i wr => ∃ k : Nat, k ≤ n ∧ i = .int .i64 k ∧ Below B w wr ∧ Hid (Outer wr ob off ss) ∧ Hid (Ls wr B 5 ss (fun i => if i < k then Ap.pat i (nth ss i).len else (nth ss i).l))) (fun i _ => n - (intOf i).toNat)
  case atStart => exact ⟨0, by omega, rfl, Below.refl _ _, HO, Lib.hid (HL.out.congr fun i hi => by simp)⟩
  case round =>
    obtain ⟨k, hk, rfl, hb1, HO1, HL1⟩ := hrel
    by_cases hlt : k < n
    · have hks : k < ss.length := by rw [HN.out]; exact hlt
      have hcell := HO1.out k hks
      have hlk := HLEN.out k hks
      have hown := Lib.hid (HL1.out k hks)
      generalize hp : nth ss k = p at *
      obtain ⟨pa, plen, pcap, pl⟩ := p
      have HP := Lib.hid hp
      clear hp
      simp only at hcell hlk
      go_wp2
      go_loopw [22] (fun i wr => ∃ j : Nat, j ≤ plen ∧ i = .int .i64 j ∧ Below B w wr ∧ Hid (Outer wr ob off ss) ∧ Hid (Ls wr B 5 ss (fun i => if i < k then Ap.pat i (nth ss i).len else if i = k then Ap.half k j pl else (nth ss i).l))) (fun i _ => plen - (intOf i).toNat)
      case atStart => exact ⟨0, by omega, rfl, hb1, HO1, Lib.hid (HL1.out.congr fun i hi => by
        by_cases h1 : i < k
        · simp [h1]
        · by_cases h2 : i = k
          · subst h2; simp [HP.out, Ap.half_zero]
          · simp [h1, h2])⟩
      case round =>
        obtain ⟨j, hj, rfl, hb2, HO2, HL2⟩ := hrel
        by_cases hlj : j < plen
        · have hpv : (nth ss k).val = .slice pa plen pcap := by rw [HP.out]; rfl
          have hkown := HL2.out k hks
          rw [hpv, show (nth ss k).len = plen by rw [HP.out]] at hkown
          rcases own_nil_or hkown with ⟨_, h0⟩ | ⟨g, cap', hv, hle, hbg, hgl, hcm⟩
          · omega
          simp only [Value.slice.injEq] at hv
          obtain ⟨rfl, _, rfl⟩ := hv
          have hll : plen = pl.length := by
            have h1 : (bvs (nth ss k).l).length = (nth ss k).len * 1 := (HL.out k hks).1
            rw [HP.out, bvs_length] at h1
            simpa using h1.symm
          have hng : g ≠ ob := fun e => HNE.out k hks (by rw [hpv, e]; rfl)
          have hce : wr.cell? ⟨g, j, none⟩ = some (.int .u8 (gb (Ap.half k j pl) j)) := by
            simp only [Nat.lt_irrefl, if_false, if_true] at hkown
            rw [hkown.cellAt j (by omega), bvs_get _ _ (by simp [Ap.half, Ap.pat_length]; omega)]
          have hfr : wr.frozen? ⟨g, j, none⟩ = false := hkown.frozenAt j
          have hst := Lib.hid (HL2.out.store HD.out k hks g plen pcap hpv (by rw [HP.out]) j (29 * k + 5 * j + 3) (Ap.pby k j) rfl)
          have hcv : ((29 * (k : Int) + 5 * (j : Int) + 3) % 256) = (((29 * k + 5 * j + 3) % 256 : Nat) : Int) := by omega
          have HC := Lib.hid hcv
          clear hcv hkown hpv
          have HH := Lib.hid hll
          clear hll
          have HNG := Lib.hid hng
          clear hng
          go_wp2
          rw [HC.out]
          go_roundw
          case rel =>
            refine ⟨j + 1, by omega, by go_num, hb2.setCell hbg _, ?_, ?_⟩
            · exact Lib.hid fun i hi => by
                rw [cell_set_other (fun e => HNG.out e.symm)]
                exact HO2.out i hi
            · exact Lib.hid (hst.out.congr fun i hi => by
                by_cases h1 : i = k
                · subst h1
                  simp [Ap.half_set _ _ _ (show j < pl.length by rw [← HH.out]; exact hlj)]
                · simp [h1])
          case measure => simp [intOf]; omega
        · obtain rfl : j = plen := by omega
          go_wp2
          go_roundw
          case rel =>
            refine ⟨k + 1, by omega, by go_num, hb2, HO2, Lib.hid (HL2.out.congr fun i hi => ?_)⟩
            by_cases h1 : i < k
            · simp [h1, show i < k + 1 by omega]
            · by_cases h2 : i = k
              · subst h2
                have h1 : (bvs (nth ss i).l).length = (nth ss i).len * 1 := (HL.out i hks).1
                rw [HP.out, bvs_length] at h1
                have h3 : pl.length = j := by simpa using h1
                subst h3
                rw [HP.out]
                simp [Ap.half_full]
              · simp [h1, h2, show ¬ i < k + 1 by omega]
          case measure => simp [intOf]; omega
    · obtain rfl : n = k := by omega
      have HL3 : Hid (Ls wr B 5 ss (fun i => Ap.pat i (nth ss i).len)) := Lib.hid (HL1.out.congr fun i hi => by
        rw [if_pos (by rw [← HN.out]; exact hi)])
      have hbase : Below wr.heap.size wr (wr.alloc (.cells #[] 24)) := below_alloc _ _
      have HC : Hid (Cst B ob wr.heap.size ss) := Lib.hid ⟨HD.out, HNE.out, fun i hi g hg => (HL1.out i hi).lt g hg, Nat.lt_of_lt_of_le hobl hb1.size, Nat.le_trans hB hb1.size⟩
      have HS : Hid (St w (wr.alloc (.cells #[] 24)) B ob off wr.heap.size 5 24 ss [] (.slice (some ⟨wr.heap.size, 0, none⟩) 0 0) 0) := Lib.hid
        ⟨hb1.trans (hbase.mono (Nat.le_trans hB hb1.size)), by simp, fun i hi => by rw [hbase.cell (p := ⟨ob, off + i, none⟩) HC.out.obl]; exact HO1.out i hi,
          fun i hi => own_below (HL3.out i hi) hbase, rfl, World.ownsRow_made wr #[] 0 (Nat.le_refl _) (by unfold maxLen; omega) rfl, fun i hi => absurd hi (by omega), fun i hi => absurd hi (by omega)⟩
      have hS0 : B ≤ wr.heap.size := HC.out.bs
      have hobS : ob < wr.heap.size := HC.out.obl
      clear HL1 HL HO HL3 hbase HO1 hb1 hB hobl HD HNE
      go_wp2
      revert HC HS hS0 hobS
      generalize hq : wr.alloc (.cells #[] 24) = w2
      clear hq
      generalize wr.heap.size = S0
      intro HC HS hS0 hobS
      go_loopw [6, 40] (fun gv i wr => ∃ k : Nat, k ≤ n ∧ i = .int .i64 k ∧ ∃ gs, Hid (St w wr B ob off S0 5 24 ss gs gv k)) (fun _ i _ => n - (intOf i).toNat)
      case atStart => exact ⟨0, by omega, rfl, [], HS⟩
      case round =>
        obtain ⟨k, hk, rfl, gs, HS1⟩ := hrel
        by_cases hlt : k < n
        · have hks : k < ss.length := by rw [HN.out]; exact hlt
          have hcell := HS1.out.out k hks
          have hlk := HLEN.out k hks
          have hown := Lib.hid (HS1.out.ls k hks)
          generalize hp : nth ss k = p at *
          obtain ⟨pa, plen, pcap, pl⟩ := p
          have HP := Lib.hid hp
          clear hp
          simp only at hcell hlk
          have hVg : Hid (Vg wr B S0 5 ss gs u6 (.slice pa plen pcap) k 0) := Lib.hid ⟨by have h0 := hown.out; simp only [HP.out] at h0; rw [HP.out]; exact h0, .inl (by rw [HP.out]; rfl)⟩
          clear hown
          go_wp2
          clear hcell
          go_loopw [8] (fun v wr => ∃ t : Nat, t ≤ 10 ∧ ∃ va vc, v = .slice va (plen + t) vc ∧ Hid (St w wr B ob off S0 5 24 ss gs u6 k) ∧ Hid (Vg wr B S0 5 ss gs u6 (.slice va (plen + t) vc) k t)) (fun v _ => plen + 10 - lenOf v)
          case atStart => exact ⟨0, by omega, pa, pcap, rfl, HS1, hVg⟩
          case round =>
            obtain ⟨t, ht, va, vc, rfl, HS2, HV2⟩ := hrel
            by_cases hlt2 : t < 10
            · have hx : ((29 * (k : Int) + 5 * ((plen : Int) + (t : Int)) + 3) % 256) = (((Ap.pby k (plen + t)).toNat : Nat) : Int) := by
                simp only [Ap.pby, UInt8.toNat_ofNat']; omega
              have HX := Lib.hid hx
              clear hx
              have hsrc : SrcRow (wr.alloc (.cells #[Value.int .u8 ((29 * (k : Int) + 5 * ((plen : Int) + (t : Int)) + 3) % 256)] 5)) (some ⟨wr.heap.size, 0, none⟩) 1 1 (bvs [Ap.pby k (plen + t)]) 1 := by
                rw [HX.out]; exact src_new wr #[Value.int .u8 ((Ap.pby k (plen + t)).toNat : Int)] 5 1 1 1 rfl (bvs_one [Ap.pby k (plen + t)])
              have hmono := below_alloc wr (.cells #[Value.int .u8 ((29 * (k : Int) + 5 * ((plen : Int) + (t : Int)) + 3) % 256)] 5)
              have HSm := Lib.hid (HS2.out.mono HC.out hmono (Nat.lt_of_lt_of_le hobS HS2.out.size))
              have HVm := Lib.hid (HV2.out.mono hmono)
              have hvo := HVm.out.own
              rw [show (nth ss k).len = plen by rw [HP.out]] at hvo
              have hBs : B ≤ (wr.alloc (.cells #[Value.int .u8 ((29 * (k : Int) + 5 * ((plen : Int) + (t : Int)) + 3) % 256)] 5)).heap.size := by simp; have := HS2.out.size; omega
              have HV3 := Lib.hid hvo
              clear hvo hmono
              go_wp2_with (at_builtin; refine wpl_append2 tyB rfl _ _ rfl HV3.out hsrc rfl rfl (by omega) (by omega) (by omega) hBs ?_)
              intro v' w' hown' hst'
              clear hsrc
              have hpl : (nth ss k).len = plen := by rw [HP.out]
              obtain ⟨hS', hV'⟩ := ap_step HVm.out HC.out HSm.out hks hst' (by rw [hpl]; rw [bvs_append]; exact hown')
              have hv0 := hV'.own
              rw [hpl] at hv0
              have hHS' := Lib.hid hS'
              have hHV' := Lib.hid hV'
              clear hS' hV' hst' hown' HSm HVm HS2 HV2
              rcases own_nil_or hv0 with ⟨_, h0⟩ | ⟨g, cap', rfl, _⟩
              · omega
              clear hv0 hpl
              go_wp2
              go_roundw
              case rel => exact ⟨t + 1, by omega, some ⟨g, 0, none⟩, cap', rfl, hHS', hHV'⟩
              case measure => simp [lenOf]; omega
            · obtain rfl : 10 = t := by omega
              have hmono := below_alloc wr (.cells #[Value.slice va (plen + 10) vc] 24)
              have hsrc : SrcRow (wr.alloc (.cells #[Value.slice va (plen + 10) vc] 24)) (some ⟨wr.heap.size, 0, none⟩) 1 1 [Value.slice va (plen + 10) vc] 1 :=
                src_new wr #[Value.slice va (plen + 10) vc] 24 1 1 1 rfl (fun u hu => by simp only [List.mem_singleton] at hu; subst hu; rfl)
              have HSm := Lib.hid (HS2.out.mono HC.out hmono (Nat.lt_of_lt_of_le hobS HS2.out.size))
              have HVm := Lib.hid (HV2.out.mono hmono)
              have HG := Lib.hid HSm.out.gown
              have hBs : S0 ≤ (wr.alloc (.cells #[Value.slice va (plen + 10) vc] 24)).heap.size := HSm.out.size
              clear hmono
              go_wp2_with (at_builtin; refine wpl_append2 tyBB rfl _ _ rfl HG.out hsrc rfl rfl (by omega) (by omega) (by omega) hBs ?_)
              intro gv' w' hown' hst'
              clear hsrc
              have hS' := Lib.hid (ap_grow ⟨va, plen + 10, vc, []⟩ rfl (by rw [HP.out]) HVm.out HC.out HSm.out hks hst' hown')
              clear hst' hown' HSm HVm HS2 HV2 HG
              go_wp2
              go_roundw
              case rel => exact ⟨k + 1, by omega, by go_num, _, hS'⟩
              case measure => simp [intOf]; omega
        · obtain rfl : n = k := by omega
          obtain ⟨ga, gc, rfl, hgc⟩ := own_slice HS1.out.gown
          have HGC := Lib.hid hgc
          clear hgc HS hk hlt
          go_wp2
          go_loopw [70] (fun i w' => ∃ k : Nat, k ≤ n ∧ i = .int .i64 k ∧ ∃ m, w' = wr.drewN m) (fun i _ => n - (intOf i).toNat)
          case atStart => exact ⟨0, by omega, rfl, 0, rfl⟩
          case round =>
            obtain ⟨k, hk, rfl, m, rfl⟩ := hrel
            by_cases hlt : k < n
            · obtain ⟨gg, rfl, hgcell⟩ := HGC.out k hlt
              have hks : k < gs.length := by rw [HS1.out.glen]; exact hlt
              have hks2 : k < ss.length := by rw [HN.out]; exact hlt
              have hx : wr.cell? ⟨gg, k, none⟩ = some (nth gs k).val := by rw [hgcell, nth_get gs k hks]; simp [List.getElem?_eq_getElem hks]
              clear hgcell
              obtain ⟨he1, he2⟩ := HS1.out.geach k hlt
              have hl2 : wr.ownsRow B 5 1 (nth ss k).val (nth ss k).len (bvs (Ap.pat k (nth ss k).len)) := HS1.out.ls k hks2
              have hcell := HS1.out.out k hks2
              have hlk := HLEN.out k hks2
              generalize hp : nth gs k = p at *
              clear hp
              generalize hq : nth ss k = q at *
              obtain ⟨pa, plen, pcap, pl⟩ := p
              obtain ⟨qa, qlen, qcap, ql⟩ := q
              simp only [Sl.val] at he2 hcell hlk hx
              obtain rfl := he2
              have HE := Lib.hid he1
              have HL2 := Lib.hid hl2
              clear he1 hl2
              go_wp2
              go_loopw [77] (fun i w' => ∃ j : Nat, j ≤ qlen + 10 ∧ i = .int .i64 j ∧ ∃ m, w' = wr.drewN m) (fun i _ => qlen + 10 - (intOf i).toNat)
              case atStart => exact ⟨0, by omega, rfl, m, rfl⟩
              case round =>
                obtain ⟨j, hj, rfl, m2, rfl⟩ := hrel
                by_cases hlj : j < qlen + 10
                · obtain ⟨a1, c1, e1, hall1⟩ := own_slice HE.out
                  obtain ⟨g1, e2, hc1⟩ := hall1 j hlj
                  clear hall1
                  simp only [Sl.val, Value.slice.injEq] at e1
                  obtain ⟨rfl, _, rfl⟩ := e1
                  subst e2
                  rw [bvs_get _ _ (by rw [Ap.pat_length]; exact hlj), Ap.gb_pat _ _ _ hlj] at hc1
                  have hcv : (((29 * k + 5 * j + 3) % 256 : Nat) : Int) = (29 * (k : Int) + 5 * (j : Int) + 3) % 256 := by omega
                  rw [hcv] at hc1
                  clear hcv
                  by_cases hjq : j < qlen
                  · obtain ⟨a2, c2, e3, hall2⟩ := own_slice HL2.out
                    obtain ⟨g2, e4, hc2⟩ := hall2 j hjq
                    clear hall2
                    simp only [Sl.val, Value.slice.injEq] at e3
                    obtain ⟨rfl, _, rfl⟩ := e3
                    subst e4
                    rw [bvs_get _ _ (by rw [Ap.pat_length]; exact hjq), Ap.gb_pat _ _ _ hjq] at hc2
                    have hcv : (((29 * k + 5 * j + 3) % 256 : Nat) : Int) = (29 * (k : Int) + 5 * (j : Int) + 3) % 256 := by omega
                    rw [hcv] at hc2
                    clear hcv
                    go_wp2
                    go_quiet (fail)
                    go_wp2
                    go_roundw
                    case rel => exact ⟨j + 1, by omega, by go_num, _, rfl⟩
                    case measure => simp [intOf]; omega
                  · have hjb : decide ((j : Int) < (qlen : Int)) = false := by simp; omega
                    go_wp2
                    go_quiet (fail)
                    go_wp2
                    go_roundw
                    case rel => exact ⟨j + 1, by omega, by go_num, _, rfl⟩
                    case measure => simp [intOf]; omega
                · go_wp2
                  go_roundw
                  case rel => exact ⟨k + 1, by omega, by go_num, m2, rfl⟩
                  case measure => simp [intOf]; omega
            · go_wp2
              go_ret
              exact ⟨rfl, HS1.out.bel.trans ⟨rfl, rfl, rfl, Nat.le_refl _, fun _ _ => rfl⟩⟩
end Go.Proofs.Ytbgaaocgdjkkeaa
