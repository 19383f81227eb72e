/- chunk.reader.chunk: its contract. -/
import Derived.Test.YtfhmmlpcdgcmoaaCkRead
import Derived.Test.YtfhmmlpcdgcmoaaCkOne
namespace Go.Proofs.Ytfhmmlpcdgcmoaa
open Go.RowKit

theorem chunk_results (tmps : Array Value) (W : World) (cb : Nat) (x y u : Value) (h2 : tmps.getD 2 undef = .pointer (some ⟨cb, 0, none⟩)) (h3 : tmps.getD 3 undef = u) (hrow : W.heap[cb]? = some (.cells #[x, y] 52 (0, 0))) :
    (results Try.f65 tmps).run Try.prog W = .ok (.tuple #[.agg #[x, y], u]) W := by
  refine (results_cell_tmp (p := 2) (u := 3) (ty := 52) (by kernel_rfl) tmps Try.prog W).trans ?_
  have hl : (loadVar 52 ⟨cb, 0, none⟩).run Try.prog W = .ok (.agg #[x, y]) W :=
    run_loadVar_row W cb _ 52 #[x, y] (0, 0) _ hrow Try.underlying52 rfl (by kernel_rfl)
  rw [h2, h3]
  simp [asAddr, hl, Result.andThen]
def ChPost (w : World) (p b : Nat) (l : List UInt8) (e : Ending) (w' : World) : Prop :=
  Ch w w' (fun k => k = p) ∧
  ((Ck.one l).1 = 0 → ∃ v n, e = .returned (.tuple #[.agg #[.string (str (Ck.one l).2.1.1), v], .nilIface]) ∧ w'.ownsRow w.heap.size 5 1 v n (bvs (Ck.one l).2.1.2) ∧ Rdr w' p b (Ck.one l).2.2) ∧
  ((Ck.one l).1 ≠ 0 → e = .returned (.tuple #[.agg #[.string { data := #[] }, .slice none 0 0], .iface 61 (.int .i64 ((Ck.one l).1 : Nat))]))
theorem ChPost.err {w : World} {p b : Nat} {l : List UInt8} {e : Ending} {w' : World} {n : Nat} (h : (Ck.one l).1 = n) (hn : n ≠ 0) (he : e = .returned (.tuple #[.agg #[.string { data := #[] }, .slice none 0 0], .iface 61 (.int .i64 (n : Nat))])) (hc : Ch w w' (fun k => k = p)) : ChPost w p b l e w' :=
  ⟨hc, fun h0 => absurd (h.symm.trans h0) hn, fun _ => by rw [h]; exact he⟩
/-- The result's cell while the reader goes on. -/
structure Cel (w w1 : World) (p b : Nat) (l : List UInt8) : Prop where
  row : w1.heap[w.heap.size]? = some (.cells #[.string { data := #[] }, .slice none 0 0] 52 (0, 0))
  rdr : Rdr w1 p b l
  ch : Ch w w1 (fun k => k = p)
  lt : p < w.heap.size
theorem Cel.step {w w1 w2 : World} {p b : Nat} {l m : List UInt8} (h : Cel w w1 p b l) (hc : Ch w1 w2 (fun k => k = p)) (hr : Rdr w2 p b m) : Cel w w2 p b m :=
  ⟨by rw [hc.block _ (Array.getElem?_eq_some_iff.1 h.row).1 (fun e => by have := h.lt; omega)]; exact h.row, hr, h.ch.trans hc (fun k hk => .inl hk), h.lt⟩
theorem Cel.below {w w1 w2 : World} {p b : Nat} {l : List UInt8} (h : Cel w w1 p b l) (hb : Below w1.heap.size w1 w2) : Cel w w2 p b l :=
  h.step (Ch.of_below hb) (h.rdr.below hb)
/-- Behind the stores into it. -/
theorem Cel.fin {w w1 : World} {p b : Nat} {l : List UInt8} (h : Cel w w1 p b l) (x y : Value) : ((w1.setCell ⟨w.heap.size, 0, none⟩ x).setCell ⟨w.heap.size, 1, none⟩ y).heap[w.heap.size]? = some (.cells #[x, y] 52 (0, 0)) ∧ Ch w ((w1.setCell ⟨w.heap.size, 0, none⟩ x).setCell ⟨w.heap.size, 1, none⟩ y) (fun k => k = p) :=
  ⟨row_2 h.row x y, (h.ch.set (p := ⟨w.heap.size, 0, none⟩) (.inr (Nat.le_refl _)) _).set (p := ⟨w.heap.size, 1, none⟩) (.inr (Nat.le_refl _)) _⟩
theorem Cel.cells {w w1 : World} {p b : Nat} {l : List UInt8} (h : Cel w w1 p b l) : w1.cell? ⟨w.heap.size, 0, none⟩ = some (.string { data := #[] }) ∧ w1.cell? ⟨w.heap.size, 1, none⟩ = some (.slice none 0 0) ∧ w1.frozen? ⟨w.heap.size, 0, none⟩ = false ∧ w1.frozen? ⟨w.heap.size, 1, none⟩ = false :=
  ⟨(cell_of_row _ _ 0 _ _ (0, 0) h.row).trans rfl, (cell_of_row _ _ 1 _ _ (0, 0) h.row).trans rfl, frozen_of_row w1 w.heap.size 0 _ _ h.row, frozen_of_row w1 w.heap.size 1 _ _ h.row⟩
set_option maxRecDepth 100000 in
set_option maxHeartbeats 4000000 in
theorem chunk_any (w : World) (p b : Nat) (l : List UInt8) (h : Rdr w p b l) (hbw : b < w.heap.size) (hl : l.length ≤ 140737488355328) :
    Calls Try.prog 65 #[.pointer (some ⟨p, 0, none⟩)] w (ChPost w p b l) := by
  have HC1 : Hid (Cel w (w.alloc (.cells #[.string { data := #[] }, .slice none 0 0] 52)) p b l) := Lib.hid ⟨heap_alloc_last w _, h.below (below_alloc w _), Ch.of_below (below_alloc w _), h.lt⟩
  clear h
  have hne8 : (8 : Nat) ≠ 0 := by decide
  have hne2 : (2 : Nat) ≠ 0 := by decide
  go_enter Try.func65, Try.ntmps65
  go_wp2_with fail
  revert HC1
  generalize (w.alloc (.cells #[.string { data := #[] }, .slice none 0 0] 52)) = w1
  intro HC1
  by_cases h4 : l.length < 4
  · have HO := Lib.hid (congrArg Prod.fst (Ck.one_a h4))
    obtain ⟨x0, x1, f0, f1⟩ := HC1.out.cells
    refine (number_end_any _ p b l HC1.out.rdr h4).mono ?_
    rintro e w' ⟨rfl, rfl⟩
    clear h4
    go_wp2
    exact bodyPost_ret (chunk_results _ _ _ _ _ _ rfl rfl (HC1.out.fin _ _).1) rfl (ChPost.err HO.out hne8 rfl (HC1.out.fin _ _).2)
  refine (number_ok_any _ p b l HC1.out.rdr (by omega)).mono ?_
  rintro e w2 ⟨rfl, hr2, hc2⟩
  have HC2 := Lib.hid (HC1.out.step hc2 hr2)
  clear hr2 hc2 HC1
  obtain ⟨q, hq⟩ : ∃ q, Pt.num (l.take 4) = q := ⟨_, rfl⟩
  rw [hq]
  have hq4 : q < 4294967296 := by have := Pt.num_lt (l.take 4); rw [hq, List.length_take, show min 4 l.length = 4 by omega] at this; omega
  by_cases hbig : 2147483647 < q
  · have HO := Lib.hid (congrArg Prod.fst (Ck.one_b (b := l) (by omega) (by rw [hq]; exact hbig)))
    obtain ⟨x0, x1, f0, f1⟩ := HC2.out.cells
    have dx : decide (2147483647 < (q : Int)) = true := by simp; omega
    clear hq h4 hbig
    go_wp2
    exact bodyPost_ret (chunk_results _ _ _ _ _ _ rfl rfl (HC2.out.fin _ _).1) rfl (ChPost.err HO.out hne2 rfl (HC2.out.fin _ _).2)
  have dx : decide (2147483647 < (q : Int)) = false := by simp; omega
  have HQ := Lib.hid hq
  clear hq
  go_wp2_with fail
  by_cases h8 : l.length < 8
  · have HO := Lib.hid (congrArg Prod.fst (Ck.one_c (b := l) (by omega) (by rw [HQ.out]; omega) h8))
    obtain ⟨x0, x1, f0, f1⟩ := HC2.out.cells
    refine (take_end_any _ p b _ HC2.out.rdr 4 (by rw [List.length_drop]; omega)).mono ?_
    rintro e w' ⟨rfl, rfl⟩
    clear h4 h8 hbig
    go_wp2
    exact bodyPost_ret (chunk_results _ _ _ _ _ _ rfl rfl (HC2.out.fin _ _).1) rfl (ChPost.err HO.out hne8 rfl (HC2.out.fin _ _).2)
  refine (take_ok_any _ p b _ HC2.out.rdr 4 (by rw [List.length_drop]; omega)).mono ?_
  rintro e w3 ⟨o3, c3, rfl, hb3, hr3, hc3⟩
  have HC3 := Lib.hid (HC2.out.step hc3 hr3)
  have HB3 := Lib.hid hb3
  clear hb3 hr3 hc3 HC2
  have hnl : ((l.drop 4).take 4).length = 4 := by rw [List.length_take, List.length_drop]; omega
  rw [List.drop_drop] at HC3
  obtain ⟨nm, hnm⟩ : ∃ nm, (l.drop 4).take 4 = nm := ⟨_, rfl⟩
  rw [hnm] at HB3 hnl
  have HNM := Lib.hid hnm
  clear hnm
  have k3 := conv_bs (P := Try.prog) HB3.out 23 9 5 Try.underlying23 Try.underlying5 Try.underlying9
  go_wp2_with fail
  refine (named_any nm _ (by omega)).mono ?_
  rintro e w4 ⟨rfl, hb4⟩
  have HC4 := Lib.hid (HC3.out.below hb4)
  have HB4 := Lib.hid (HB3.out.mono hb4)
  clear hb4 HC3 HB3 k3
  cases hnd : Ck.named nm with
  | false =>
    have HO := Lib.hid (congrArg Prod.fst (Ck.one_d (b := l) (by rw [HQ.out]; omega) (by omega) (by rw [HNM.out, hnd])))
    obtain ⟨x0, x1, f0, f1⟩ := HC4.out.cells
    clear h4 h8 hbig hnd
    go_wp2
    exact bodyPost_ret (chunk_results _ _ _ _ _ _ rfl rfl (HC4.out.fin _ _).1) rfl (ChPost.err HO.out hne2 rfl (HC4.out.fin _ _).2)
  | true =>
    have HND := Lib.hid hnd
    clear hnd
    go_wp2_with fail
    by_cases h8q : l.length < 8 + q
    · have HO := Lib.hid (congrArg Prod.fst (Ck.one_e (b := l) (by rw [HQ.out]; omega) (by omega) (by rw [HNM.out, HND.out]) (by rw [HQ.out]; omega)))
      obtain ⟨x0, x1, f0, f1⟩ := HC4.out.cells
      refine (take_end_any _ p b _ HC4.out.rdr q (by rw [List.length_drop]; omega)).mono ?_
      rintro e w' ⟨rfl, rfl⟩
      clear h4 h8 hbig h8q
      go_wp2
      exact bodyPost_ret (chunk_results _ _ _ _ _ _ rfl rfl (HC4.out.fin _ _).1) rfl (ChPost.err HO.out hne8 rfl (HC4.out.fin _ _).2)
    refine (take_ok_any _ p b _ HC4.out.rdr q (by rw [List.length_drop]; omega)).mono ?_
    rintro e w5 ⟨o5, c5, rfl, hb5, hr5, hc5⟩
    have HN5 := Lib.hid (HB4.out.chg hc5 (fun b' off' e h => by
      simp only [Option.some.injEq, Addr.mk.injEq, and_true] at e
      exact HC4.out.rdr.ne (by rw [e.1]; exact h)))
    have HC5 := Lib.hid (HC4.out.step hc5 hr5)
    have HD5 := Lib.hid hb5
    clear hb5 hr5 hc5 HC4 HB4
    rw [List.drop_drop] at HC5
    obtain ⟨dd, hdd⟩ : ∃ dd, (l.drop 8).take q = dd := ⟨_, rfl⟩
    have hdl : dd.length = q := by rw [← hdd, List.length_take, List.length_drop]; omega
    rw [show 4 + 4 = 8 by rfl, hdd] at HD5
    have HDD := Lib.hid hdd
    clear hdd
    go_wp2_with fail
    by_cases h12 : l.length < 12 + q
    · have HO := Lib.hid (congrArg Prod.fst (Ck.one_e (b := l) (by rw [HQ.out]; omega) (by omega) (by rw [HNM.out, HND.out]) (by rw [HQ.out]; exact h12)))
      obtain ⟨x0, x1, f0, f1⟩ := HC5.out.cells
      refine (number_end_any _ p b _ HC5.out.rdr (by rw [List.length_drop]; omega)).mono ?_
      rintro e w' ⟨rfl, rfl⟩
      clear h4 h8 hbig h8q h12
      go_wp2
      exact bodyPost_ret (chunk_results _ _ _ _ _ _ rfl rfl (HC5.out.fin _ _).1) rfl (ChPost.err HO.out hne8 rfl (HC5.out.fin _ _).2)
    refine (number_ok_any _ p b _ HC5.out.rdr (by rw [List.length_drop]; omega)).mono ?_
    rintro e w6 ⟨rfl, hr6, hc6⟩
    have HN6 := Lib.hid (HN5.out.chg hc6 (fun b' off' e h => by
      simp only [Option.some.injEq, Addr.mk.injEq, and_true] at e
      exact HC5.out.rdr.ne (by rw [e.1]; exact h)))
    have HD6 := Lib.hid (HD5.out.chg hc6 (fun b' off' e h => by
      simp only [Option.some.injEq, Addr.mk.injEq, and_true] at e
      exact HC5.out.rdr.ne (by rw [e.1]; exact h)))
    have HC6 := Lib.hid (HC5.out.step hc6 hr6)
    clear hr6 hc6 HC5 HN5 HD5
    rw [List.drop_drop, show 4 + 4 + q + 4 = 12 + q by omega] at HC6
    obtain ⟨sm, hsm⟩ : ∃ sm, Pt.num ((l.drop (4 + 4 + q)).take 4) = sm := ⟨_, rfl⟩
    rw [hsm]
    have HSM : Hid (Pt.num ((l.drop (8 + q)).take 4) = sm) := Lib.hid hsm
    clear hsm
    go_wp2_with fail
    have hpa := parts_new w6 w6.heap.size rfl [⟨some ⟨b, o3, none⟩, 4, c3, nm⟩, ⟨some ⟨b, o5, none⟩, q, c5, dd⟩] 23 2 rfl (by omega) _ rfl (by
      intro t ht
      simp only [List.mem_cons, List.not_mem_nil, or_false] at ht
      rcases ht with rfl | rfl
      · exact HN6.out
      · exact HD6.out)
    have hfl : flat [⟨some ⟨b, o3, none⟩, 4, c3, nm⟩, ⟨some ⟨b, o5, none⟩, q, c5, dd⟩] = nm ++ dd := by simp [flat]
    refine (crc_any _ _ _ _ _ hpa).mono ?_
    rintro e w7 ⟨rfl, hb7⟩
    rw [hfl]
    have hb7 := below_then (below_alloc w6 _) hb7
    have HN7 := Lib.hid (HN6.out.mono hb7)
    have HD7 := Lib.hid (HD6.out.mono hb7)
    have HC7 := Lib.hid (HC6.out.below hb7)
    clear hpa hfl hb7 HN6 HD6 HC6
    obtain ⟨cr, hcr⟩ : ∃ cr, Crc.crc (nm ++ dd) = cr := ⟨_, rfl⟩
    rw [hcr]
    have HCR := Lib.hid hcr
    clear hcr
    have k7 := conv_bs (P := Try.prog) HN7.out 23 9 5 Try.underlying23 Try.underlying5 Try.underlying9
    by_cases hsc : sm = cr
    rotate_left
    · have HO := Lib.hid (congrArg Prod.fst (Ck.one_f (b := l) (by rw [HQ.out]; omega) (by rw [HNM.out, HND.out]) (by rw [HQ.out]; omega) (by rw [HQ.out, HNM.out, HDD.out, HSM.out, HCR.out]; exact .inl hsc)))
      obtain ⟨x0, x1, f0, f1⟩ := HC7.out.cells
      have dne : ((sm : Int) != (cr : Int)) = true := by simp; omega
      have dnn : (sm != cr) = true := by simp; omega
      clear h4 h8 hbig h8q h12 hsc
      go_wp2
      exact bodyPost_ret (chunk_results _ _ _ _ _ _ rfl rfl (HC7.out.fin _ _).1) rfl (ChPost.err HO.out hne2 rfl (HC7.out.fin _ _).2)
    subst hsc
    have dne : ((sm : Int) != (sm : Int)) = false := by simp
    have hie : ((str nm).toList == ([73, 69, 78, 68] : List UInt8)) = (nm == Ck.iend) := by rw [str_list]; rfl
    by_cases hbad : nm = Ck.iend ∧ 0 < q
    · have HO := Lib.hid (congrArg Prod.fst (Ck.one_f (b := l) (by rw [HQ.out]; omega) (by rw [HNM.out, HND.out]) (by rw [HQ.out]; omega) (by rw [HQ.out, HNM.out]; exact .inr hbad)))
      obtain ⟨x0, x1, f0, f1⟩ := HC7.out.cells
      have d1 : (nm == Ck.iend) = true := by simpa using hbad.1
      have d2 : decide (0 < q) = true := by simpa using hbad.2
      rw [d1] at hie
      clear h4 h8 hbig h8q h12 hbad d1
      go_wp2
      exact bodyPost_ret (chunk_results _ _ _ _ _ _ rfl rfl (HC7.out.fin _ _).1) rfl (ChPost.err HO.out hne2 rfl (HC7.out.fin _ _).2)
    have HO : Hid (Ck.one l = (0, (nm, dd), l.drop (12 + q))) := Lib.hid (by
      have := Ck.one_g (b := l) (by rw [HQ.out]; omega) (by rw [HNM.out, HND.out]) (by rw [HQ.out]; omega) (by rw [HQ.out, HNM.out, HDD.out, HSM.out, HCR.out]) (by rw [HQ.out, HNM.out]; intro h; exact Nat.eq_zero_of_not_pos (fun h2 => hbad ⟨h, h2⟩))
      rw [HQ.out, HNM.out, HDD.out] at this
      exact this)
    have HCL := Lib.hid (clone_any w7 nm _ _ _ _ HD7.out (by omega))
    have hmid : ∀ (P : Prop), (∀ b1 b2 : Bool, (nm == Ck.iend) = b1 → decide (0 < q) = b2 → (b1 && b2) = false → P) → P := fun P k => k _ _ rfl rfl (by
      cases h1 : (nm == Ck.iend) with
      | false => rfl
      | true => cases h2 : decide (0 < q) with
        | false => rfl
        | true => exact absurd ⟨by simpa using h1, by simpa using h2⟩ hbad)
    refine hmid _ (fun b1 b2 h1 h2 h12' => ?_)
    rw [h1] at hie
    clear h4 h8 hbig h8q h12 hbad h1 hmid
    have fin : ∀ w8 v, w8.ownsRow w7.heap.size 5 1 v q (bvs dd) → Below w7.heap.size w7 w8 → Cel w w8 p b (l.drop (12 + q)) ∧ w8.ownsRow w7.heap.size 5 1 v q (bvs dd) := fun w8 v ho hb => ⟨HC7.out.below hb, ho⟩
    have hz7 : w.heap.size < w7.heap.size := (Array.getElem?_eq_some_iff.1 HC7.out.row).1
    have HEND := Lib.hid (show ∀ (w8 : World) (v : Value), Cel w w8 p b (l.drop (12 + q)) → w8.ownsRow w7.heap.size 5 1 v q (bvs dd) → ChPost w p b l (.returned (.tuple #[.agg #[.string (str nm), v], .nilIface])) ((w8.setCell ⟨w.heap.size, 0, none⟩ (.string (str nm))).setCell ⟨w.heap.size, 1, none⟩ v) from fun w8 v hc ho => by
      have hch : Ch w8 ((w8.setCell ⟨w.heap.size, 0, none⟩ (.string (str nm))).setCell ⟨w.heap.size, 1, none⟩ v) (fun k => k = w.heap.size) := ((Ch.refl w8 (fun k => k = w.heap.size)).set (p := ⟨w.heap.size, 0, none⟩) (.inl rfl) _).set (p := ⟨w.heap.size, 1, none⟩) (.inl rfl) _
      refine ⟨(hc.fin _ _).2, fun _ => ?_, fun h => ?_⟩
      · rw [HO.out]
        refine ⟨v, q, rfl, own_base (hch.own ho (fun g hg e => by have := (ho.lt g hg).1; omega)) (fun g hg => by have := (ho.lt g hg).1; omega), ?_⟩
        obtain ⟨off, n, c, hr, hbs⟩ := hc.rdr.at'
        have hlt := hc.lt
        have hlt8 := hc.rdr.lt
        refine ⟨hc.rdr.ne, off, n, c, (hch.block p (by omega) (by omega)).trans hr, hbs.chg hch (fun b' off' e h => ?_)⟩
        simp only [Option.some.injEq, Addr.mk.injEq, and_true] at e
        have h2 : b' = w.heap.size := h
        omega
      · rw [HO.out] at h; exact absurd rfl h)
    clear fin
    cases b1 <;> cases b2
    all_goals first
      | (exfalso; revert h12'; decide)
      | (go_wp2_with fail
         refine HCL.out.mono ?_
         rintro e w8 ⟨v, rfl, ho8, hb8⟩
         obtain ⟨x0, x1, f0, f1⟩ := (HC7.out.below hb8).cells
         have HC8 := Lib.hid (HC7.out.below hb8)
         have HO8 := Lib.hid ho8
         obtain ⟨a8, c8, rfl, _⟩ := own_slice ho8
         clear ho8 hb8
         go_wp2
         exact bodyPost_ret (chunk_results _ _ _ _ _ _ rfl rfl (HC8.out.fin _ _).1) rfl (HEND.out _ _ HC8.out HO8.out))
end Go.Proofs.Ytfhmmlpcdgcmoaa
