/- head.sequence.add: its contract. -/
import Derived.Test.YtbgaaocgdjkkeaaZ13
import Derived.Test.YtbgaaocgdjkkeaaZ22
import Derived.Test.YtbgaaocgdjkkeaaZ24
set_option linter.unusedSimpArgs false
set_option linter.unusedVariables false
section
namespace Go.Proofs.Ytbgaaocgdjkkeaa
open Go.RowKit

namespace Hd
def crP (nm : List UInt8) : Bool := Ck.named nm && !Ck.small (nm.getD 0 0)
def addP (x : H) (f : List UInt8 → Nat) (prev : List UInt8) (ent : Nat) (nm l : List UInt8) : Nat :=
  if (crP nm && !knownP nm) = true then 3 else if (!fitsP f prev nm || !holdsP x ent nm l) = true then 2 else 0
def bmp (f : List UInt8 → Nat) (nm : List UInt8) : List UInt8 → Nat := fun m => if m = nm then f nm + 1 else f m
def entP (ent : Nat) (nm l : List UInt8) : Nat := if nm = Nm.PL then l.length / 3 else ent
theorem rf2 {W W' : World} {g : Nat} {o : Obj} (h : W.heap[g]? = some o) (hb : Below W.heap.size W W') : W'.heap[g]? = some o := (hb.block g (Array.getElem?_eq_some_iff.1 h).1).trans h
theorem ck_cells {W : World} {g : Nat} {u v : Value} {t : TypeId} (h : W.heap[g]? = some (.cells #[u, v] t (0, 0))) : W.cell? ⟨g, 0, none⟩ = some u ∧ W.cell? ⟨g, 1, none⟩ = some v := ⟨(cell_of_row _ _ 0 _ _ (0, 0) h).trans rfl, (cell_of_row _ _ 1 _ _ (0, 0) h).trans rfl⟩
def AdPost (w : World) (B g mb n : Nat) (x : H) (f : List UInt8 → Nat) (prev : List UInt8) (ent : Nat) (nm l : List UInt8) (e : Ending) (w' : World) : Prop :=
  e = .returned (errV (addP x f prev ent nm l)) ∧ Below B w w' ∧ (addP x f prev ent nm l = 0 → Sq w' g mb (n + 1) x (bmp f nm) nm (entP ent nm l))
theorem Sq.setE {w : World} {g mb n : Nat} {x : H} {f : List UInt8 → Nat} {prev : List UInt8} {ent : Nat} (h : Sq w g mb n x f prev ent) (hne : g ≠ mb) (k : Nat) : Sq (w.setCell ⟨g, 7, none⟩ (.int .i64 (k : Nat))) g mb n x f prev k :=
  ⟨heap_setCell_same w g 7 _ _ _ h.row, h.cm.kept (row := some g) ⟨rfl, rfl, rfl, by simp, fun i _ hi => heap_setCell_other _ _ _ _ (fun e => hi (congrArg some e))⟩ (fun e => hne (Option.some.inj e).symm)⟩
theorem Sq.setN {w : World} {g mb n : Nat} {x : H} {f : List UInt8 → Nat} {prev : List UInt8} {ent : Nat} (h : Sq w g mb n x f prev ent) (hne : g ≠ mb) (k : List UInt8) : Sq (w.setCell ⟨g, 6, none⟩ (.string (str k))) g mb n x f k ent :=
  ⟨heap_setCell_same w g 6 _ _ _ h.row, h.cm.kept (row := some g) ⟨rfl, rfl, rfl, by simp, fun i _ hi => heap_setCell_other _ _ _ _ (fun e => hi (congrArg some e))⟩ (fun e => hne (Option.some.inj e).symm)⟩
set_option maxRecDepth 100000 in
set_option maxHeartbeats 2000000 in
/-- From the count on: what is left of add. -/
theorem add_any {w : World} {B g mb n : Nat} {x : H} {f : List UInt8 → Nat} {prev : List UInt8} {ent : Nat} (h : Sq w g mb n x f prev ent) (hBg : B ≤ g) (hBm : B ≤ mb) (hne : g ≠ mb) (hg : bad x = 0) (nm : List UInt8) (hnm : nm.length ≤ 1000) (a : Option Addr) (len cap : Nat) (l : List UInt8) (hb : Bs w a len cap l) (hlen : len ≤ 1048576) (hn : n < 100000) (hf : f nm < 100000) :
    Calls Try.prog 36 #[.pointer (some ⟨g, 0, none⟩), .agg #[.string (str nm), .slice a len cap]] w (AdPost w B g mb n x f prev ent nm l) := by
  have hglt := h.lt
  have hmlt := h.cm.lt
  have hBw : B ≤ w.heap.size := Nat.le_of_lt (Nat.lt_of_le_of_lt hBg h.lt)
  have hbx := below_alloc w (.cells #[.string (str nm), .slice a len cap] 26)
  have HRW := Lib.hid (heap_alloc_last w (.cells #[.string (str nm), .slice a len cap] 26))
  have HA1 := Lib.hid hbx
  have H1 := Lib.hid (h.below hbx)
  have HD1 := Lib.hid (hb.mono hbx)
  have HGX := Lib.hid hg
  have HLL := Lib.hid hb.hlen
  have HPO : Hid (∀ k e w', addP x f prev ent nm l = k → e = .returned (errV k) → Below B w w' → (k = 0 → Sq w' g mb (n + 1) x (bmp f nm) nm (entP ent nm l)) → AdPost w B g mb n x f prev ent nm l e w') := Lib.hid (fun k e w' h1 h2 h3 h4 => by unfold AdPost; rw [h1]; exact ⟨h2, h3, h4⟩)
  have HAP : Hid (addP x f prev ent nm l = if (crP nm && !knownP nm) = true then 3 else if (!fitsP f prev nm || !holdsP x ent nm l) = true then 2 else 0) := Lib.hid rfl
  have HCR := Lib.hid (fun W => crit_any nm W (by omega))
  have HKN := Lib.hid (fun W => known_any nm W)
  have HCP : Hid (crP nm = (Ck.named nm && !Ck.small (nm.getD 0 0))) := Lib.hid rfl
  rw [← HCP.out] at HCR
  clear h hb hbx hg HCP
  generalize addP x f prev ent nm l = ap at *
  generalize hpo : AdPost w B g mb n x f prev ent nm l = PO at *
  clear hpo
  generalize crP nm = cr at *
  generalize knownP nm = kn at *
  have HSZ : Hid (∀ W, Below B w W → B ≤ W.heap.size) := Lib.hid (fun W hb => Nat.le_trans hBw hb.size)
  have hgl := Lib.hid hglt
  have hml := Lib.hid hmlt
  clear hglt hmlt
  generalize hbxs : w.heap.size = bx at *
  have hBw2 : Hid (B ≤ bx) := Lib.hid hBw
  go_enter Try.func36, Try.ntmps36
  obtain ⟨w1, hw1⟩ : ∃ w1, (w.alloc (.cells #[.string (str nm), .slice a len cap] 26)) = w1 := ⟨_, rfl⟩
  rw [hw1] at HRW HA1 H1 HD1
  have HB1 : Hid (Below B w w1) := Lib.hid (HA1.out.mono hBw2.out)
  have c0 : w1.cell? ⟨bx, 0, none⟩ = some (.string (str nm)) := (cell_of_row _ _ 0 _ _ (0, 0) HRW.out).trans rfl
  have c1 : w1.cell? ⟨bx, 1, none⟩ = some (.slice a len cap) := (cell_of_row _ _ 1 _ _ (0, 0) HRW.out).trans rfl
  have hBw3 := hBw2
  have hgx : Hid (bx ≠ g) := Lib.hid (fun e => by have := hgl.out; omega)
  have hmx : Hid (mb ≠ bx) := Lib.hid (fun e => by have := hml.out; omega)
  go_wp2_with fail
  refine (HCR.out _).mono ?_
  rintro e w2 ⟨rfl, hb2⟩
  have HR2 := Lib.hid (rf2 HRW.out hb2)
  have H2 := Lib.hid (H1.out.below hb2)
  have HD2 := Lib.hid (HD1.out.mono hb2)
  have HB2 := Lib.hid (HB1.out.trans (hb2.mono (Nat.le_trans hBw2.out (by have := HA1.out.size; omega))))
  clear hb2 HRW H1 HD1 HB1 c0 c1 hw1 HA1
  cases cr with
  | true =>
    obtain ⟨c0, c1⟩ := ck_cells HR2.out
    go_wp2_with fail
    refine (HKN.out _).mono ?_
    rintro e w' ⟨rfl, rfl⟩
    clear c0 c1
    cases kn with
    | false =>
      have HR : Hid (ap = 3) := Lib.hid (by rw [HAP.out]; rfl)
      clear HAP
      go_wp2
      exact HPO.out 3 _ _ HR.out rfl HB2.out (fun h => by cases h)
    | true =>
      have HAP : Hid (ap = if (!fitsP f prev nm || !holdsP x ent nm l) = true then 2 else 0) := Lib.hid (by rw [HAP.out]; rfl)
      obtain ⟨c0, c1⟩ := ck_cells HR2.out
      go_wp2_with fail
      refine (fits_any H2.out nm hnm).mono ?_
      rintro e w3 ⟨rfl, hb3⟩
      have HR3 := Lib.hid (rf2 HR2.out hb3)
      have H3 := Lib.hid (H2.out.below hb3)
      have HD3 := Lib.hid (HD2.out.mono hb3)
      have HB3 := Lib.hid (HB2.out.trans (hb3.mono (HSZ.out _ HB2.out)))
      clear hb3 c0 c1 HR2 H2 HD2 HB2
      obtain ⟨c0, c1⟩ := ck_cells HR3.out
      generalize fitsP f prev nm = ft at *
      cases ft with
      | false =>
        have HR : Hid (ap = 2) := Lib.hid (by rw [HAP.out]; simp)
        clear HAP
        go_wp2
        exact HPO.out 2 _ _ HR.out rfl HB3.out (fun h => by cases h)
      | true =>
        go_wp2_with fail
        refine (holds_any H3.out HGX.out nm a len cap l HD3.out (by omega)).mono ?_
        rintro e w4 ⟨rfl, hb4⟩
        have HR4 := Lib.hid (rf2 HR3.out hb4)
        have H4 := Lib.hid (H3.out.below hb4)
        have HB4 := Lib.hid (HB3.out.trans (hb4.mono (HSZ.out _ HB3.out)))
        clear hb4 c0 c1 HR3 H3 HD3 HB3
        obtain ⟨c0, c1⟩ := ck_cells HR4.out
        generalize holdsP x ent nm l = hd at *
        cases hd with
        | false =>
          have HR : Hid (ap = 2) := Lib.hid (by rw [HAP.out]; simp)
          clear HAP
          go_wp2
          exact HPO.out 2 _ _ HR.out rfl HB4.out (fun h => by cases h)
        | true =>
          have HAP0 : Hid (ap = 0) := Lib.hid (by rw [HAP.out]; simp)
          clear HAP
          by_cases hPL : nm = Nm.PL
          · have e1 : ((str nm).toList == [80, 76, 84, 69]) = true := str_is nm _ true (by rw [hPL]; decide)
            have HEN : Hid (entP ent nm l = len / 3) := Lib.hid (by unfold entP; rw [if_pos hPL, HLL.out])
            have c7 := H4.out.cells.2.2.2.2
            have f7 := frozen_of_row w4 g 7 _ _ H4.out.row
            have hq3 := Lib.hid (show ((len / 3 : Nat) : Int) = (len : Int) / 3 by omega)
            have H5 : Hid (Sq (w4.setCell ⟨g, 7, none⟩ (.int .i64 ((len : Int) / 3))) g mb n x f prev (len / 3)) := Lib.hid (hq3.out ▸ H4.out.setE hne (len / 3))
            have HR5 : Hid ((w4.setCell ⟨g, 7, none⟩ (.int .i64 ((len : Int) / 3))).heap[bx]? = some (.cells #[.string (str nm), .slice a len cap] 26 (0, 0))) := Lib.hid (by rw [heap_setCell_other _ _ _ _ hgx.out]; exact HR4.out)
            have HB5 : Hid (Below B w (w4.setCell ⟨g, 7, none⟩ (.int .i64 ((len : Int) / 3)))) := Lib.hid (HB4.out.setCell (p := ⟨g, 7, none⟩) hBg _)
            clear hPL
            go_wp2_with fail
            clear c0 c1 c7 f7 hq3 HR4 H4 HB4 e1
            revert H5 HR5 HB5
            generalize (w4.setCell ⟨g, 7, none⟩ (.int .i64 ((len : Int) / 3))) = w5
            intro H5 HR5 HB5
            have H5d := Lib.hid (H5.out.below (Below.refl _ w5).drew)
            have hlook := H5d.out.cm.look (nm := nm) hnm
            obtain ⟨w9, hput, hcm9, hgr9⟩ := H5d.out.cm.put (nm := nm) hnm (by omega) (c := f nm + 1) (by omega)
            have hlt5 : g < w5.drew.heap.size := H5d.out.lt
            have hltx : bx < w5.drew.heap.size := (Array.getElem?_eq_some_iff.1 HR5.out).1
            have H9 : Hid (Sq w9 g mb (n + 1) x (bmp f nm) prev (len / 3)) := Lib.hid ⟨(hgr9.block g hlt5 (fun e => hne (Option.some.inj e))).trans H5d.out.row, hcm9⟩
            have hrow9 : w9.heap[bx]? = some (.cells #[.string (str nm), .slice a len cap] 26 (0, 0)) := (hgr9.block bx hltx (fun e => hmx.out (Option.some.inj e).symm)).trans HR5.out
            have HR9 := Lib.hid hrow9
            have HB9 : Hid (Below B w w9) := Lib.hid (HB5.out.drew.grown hgr9 (HSZ.out _ HB5.out.drew) (fun j hj => by cases hj; exact hBm))
            have HS8 : Hid (w5.drew.cell? ⟨g, 5, none⟩ = some (.map (some mb)) ∧ w5.drew.cell? ⟨bx, 0, none⟩ = some (.string (str nm))) := Lib.hid ⟨H5d.out.cells.2.2.1, (ck_cells HR5.out).1⟩
            have HS9 : Hid (w9.cell? ⟨g, 5, none⟩ = some (.map (some mb)) ∧ w9.cell? ⟨bx, 0, none⟩ = some (.string (str nm))) := Lib.hid ⟨H9.out.cells.2.2.1, (ck_cells hrow9).1⟩
            have hwr : IntKind.i64.wrap (((f nm : Nat) : Int) + 1) = ((f nm : Nat) : Int) + 1 := IntWalk.i64_in _ ⟨by omega, by omega⟩
            rw [show ((f nm + 1 : Nat) : Int) = ((f nm : Nat) : Int) + 1 by omega] at hput
            generalize f nm = fc at *
            clear hcm9 hgr9 hlt5 hltx hrow9 H5d H5 HR5 HB5
            refine wp_region_noPanic ?_
            refine region_RH (fun w' => w'.cell? ⟨g, 5, none⟩ = some (.map (some mb)) ∧ w'.cell? ⟨bx, 0, none⟩ = some (.string (str nm))) (by kernel_rfl) ?_
            refine RH_take (i := 0) (v := ?_) rfl (by kernel_rfl) (by kernel_rfl) (by kernel_rfl) (fun _ _ _ h => h) HS8.out (by rfl) ?_ ?_
            rotate_left
            · (intro w' hw'; obtain ⟨j0, j1⟩ := hw'; first | (go_simp; done) | (go_simp; with_reducible rfl))
            try simp only [List.getElem_toArray, List.getElem_cons_zero, List.getElem_cons_succ, Act.put, List.setIfInBounds_toArray, List.set_cons_zero, List.set_cons_succ]
            refine RH_take (i := 1) (v := ?_) rfl (by kernel_rfl) (by kernel_rfl) (by kernel_rfl) (fun _ _ _ h => h) HS8.out (by rfl) ?_ ?_
            rotate_left
            · (intro w' hw'; obtain ⟨j0, j1⟩ := hw'; first | (go_simp; done) | (go_simp; with_reducible rfl))
            try simp only [List.getElem_toArray, List.getElem_cons_zero, List.getElem_cons_succ, Act.put, List.setIfInBounds_toArray, List.set_cons_zero, List.set_cons_succ]
            refine RH_take (i := 2) (v := ?_) rfl (by kernel_rfl) (by kernel_rfl) (by kernel_rfl) (fun _ _ _ h => h) HS8.out (by rfl) ?_ ?_
            rotate_left
            · (intro w' hw'; obtain ⟨j0, j1⟩ := hw'; first | (go_simp; done) | (go_simp; with_reducible rfl))
            try simp only [List.getElem_toArray, List.getElem_cons_zero, List.getElem_cons_succ, Act.put, List.setIfInBounds_toArray, List.set_cons_zero, List.set_cons_succ]
            refine RH_take (i := 3) (v := ?_) rfl (by kernel_rfl) (by kernel_rfl) (by kernel_rfl) (fun _ _ _ h => h) HS8.out (by rfl) ?_ ?_
            rotate_left
            · (intro w' hw'; obtain ⟨j0, j1⟩ := hw'; first | (go_simp; done) | (go_simp; with_reducible rfl))
            try simp only [List.getElem_toArray, List.getElem_cons_zero, List.getElem_cons_succ, Act.put, List.setIfInBounds_toArray, List.set_cons_zero, List.set_cons_succ]
            refine RH_take (i := 4) (v := ?_) rfl (by kernel_rfl) (by kernel_rfl) (by kernel_rfl) (fun _ _ _ h => h) HS8.out (by rfl) ?_ ?_
            rotate_left
            · (intro w' hw'; obtain ⟨j0, j1⟩ := hw'; first | (go_simp; done) | (go_simp; with_reducible rfl))
            try simp only [List.getElem_toArray, List.getElem_cons_zero, List.getElem_cons_succ, Act.put, List.setIfInBounds_toArray, List.set_cons_zero, List.set_cons_succ]
            refine RH_take (i := 5) (v := ?_) rfl (by kernel_rfl) (by kernel_rfl) (by kernel_rfl) (fun _ _ _ h => h) HS8.out (by rfl) ?_ ?_
            rotate_left
            · (intro w' hw'; obtain ⟨j0, j1⟩ := hw'; first | (go_simp; done) | (go_simp; with_reducible rfl))
            try simp only [List.getElem_toArray, List.getElem_cons_zero, List.getElem_cons_succ, Act.put, List.setIfInBounds_toArray, List.set_cons_zero, List.set_cons_succ]
            refine RH_step (i := 6) (by kernel_rfl) rfl (fun K hK => ?_)
            go_simp
            refine hK.out _ _ HS8.out ?_
            clear hK K
            try simp only [List.getElem_toArray, List.getElem_cons_zero, List.getElem_cons_succ, Act.put, List.setIfInBounds_toArray, List.set_cons_zero, List.set_cons_succ]
            refine RH_take (i := 7) (v := ?_) rfl (by kernel_rfl) (by kernel_rfl) (by kernel_rfl) (fun _ _ _ h => h) HS8.out (by rfl) ?_ ?_
            rotate_left
            · (intro w' hw'; obtain ⟨j0, j1⟩ := hw'; first | (go_simp; done) | (go_simp; with_reducible rfl))
            try simp only [List.getElem_toArray, List.getElem_cons_zero, List.getElem_cons_succ, Act.put, List.setIfInBounds_toArray, List.set_cons_zero, List.set_cons_succ]
            refine RH_step (i := 8) (by kernel_rfl) rfl (fun K hK => ?_)
            go_simp
            skip
            go_simp
            refine hK.out _ _ HS9.out ?_
            clear hK K
            try simp only [List.getElem_toArray, List.getElem_cons_zero, List.getElem_cons_succ, Act.put, List.setIfInBounds_toArray, List.set_cons_zero, List.set_cons_succ]
            refine wpAnyH_done (by kernel_rfl) ?_ _
            refine NoPanic.normal ?_
            clear hlook hput hwr HS8 HS9
            obtain ⟨c0, c1⟩ := ck_cells HR9.out
            have c6 := H9.out.cells.2.2.2.1
            have f6 := frozen_of_row w9 g 6 _ _ H9.out.row
            have H10 := Lib.hid (H9.out.setN hne nm)
            have HB10 := Lib.hid (HB9.out.setCell (p := ⟨g, 6, none⟩) hBg (.string (str nm)))
            go_wp2
            exact HPO.out 0 _ _ HAP0.out rfl HB10.out (fun _ => by rw [HEN.out]; exact H10.out)
          · have e1 : ((str nm).toList == [80, 76, 84, 69]) = false := str_is nm _ false (by simpa [Nm.PL] using hPL)
            have HEN : Hid (entP ent nm l = ent) := Lib.hid (by unfold entP; rw [if_neg hPL])
            clear hPL
            go_wp2_with fail
            clear c0 c1 e1
            have H5 := H4
            have HR5 := HR4
            have HB5 := HB4
            clear H4 HR4 HB4
            revert H5 HR5 HB5
            generalize w4 = w5
            intro H5 HR5 HB5
            have H5d := Lib.hid (H5.out.below (Below.refl _ w5).drew)
            have hlook := H5d.out.cm.look (nm := nm) hnm
            obtain ⟨w9, hput, hcm9, hgr9⟩ := H5d.out.cm.put (nm := nm) hnm (by omega) (c := f nm + 1) (by omega)
            have hlt5 : g < w5.drew.heap.size := H5d.out.lt
            have hltx : bx < w5.drew.heap.size := (Array.getElem?_eq_some_iff.1 HR5.out).1
            have H9 : Hid (Sq w9 g mb (n + 1) x (bmp f nm) prev ent) := Lib.hid ⟨(hgr9.block g hlt5 (fun e => hne (Option.some.inj e))).trans H5d.out.row, hcm9⟩
            have hrow9 : w9.heap[bx]? = some (.cells #[.string (str nm), .slice a len cap] 26 (0, 0)) := (hgr9.block bx hltx (fun e => hmx.out (Option.some.inj e).symm)).trans HR5.out
            have HR9 := Lib.hid hrow9
            have HB9 : Hid (Below B w w9) := Lib.hid (HB5.out.drew.grown hgr9 (HSZ.out _ HB5.out.drew) (fun j hj => by cases hj; exact hBm))
            have HS8 : Hid (w5.drew.cell? ⟨g, 5, none⟩ = some (.map (some mb)) ∧ w5.drew.cell? ⟨bx, 0, none⟩ = some (.string (str nm))) := Lib.hid ⟨H5d.out.cells.2.2.1, (ck_cells HR5.out).1⟩
            have HS9 : Hid (w9.cell? ⟨g, 5, none⟩ = some (.map (some mb)) ∧ w9.cell? ⟨bx, 0, none⟩ = some (.string (str nm))) := Lib.hid ⟨H9.out.cells.2.2.1, (ck_cells hrow9).1⟩
            have hwr : IntKind.i64.wrap (((f nm : Nat) : Int) + 1) = ((f nm : Nat) : Int) + 1 := IntWalk.i64_in _ ⟨by omega, by omega⟩
            rw [show ((f nm + 1 : Nat) : Int) = ((f nm : Nat) : Int) + 1 by omega] at hput
            generalize f nm = fc at *
            clear hcm9 hgr9 hlt5 hltx hrow9 H5d H5 HR5 HB5
            refine wp_region_noPanic ?_
            refine region_RH (fun w' => w'.cell? ⟨g, 5, none⟩ = some (.map (some mb)) ∧ w'.cell? ⟨bx, 0, none⟩ = some (.string (str nm))) (by kernel_rfl) ?_
            refine RH_take (i := 0) (v := ?_) rfl (by kernel_rfl) (by kernel_rfl) (by kernel_rfl) (fun _ _ _ h => h) HS8.out (by rfl) ?_ ?_
            rotate_left
            · (intro w' hw'; obtain ⟨j0, j1⟩ := hw'; first | (go_simp; done) | (go_simp; with_reducible rfl))
            try simp only [List.getElem_toArray, List.getElem_cons_zero, List.getElem_cons_succ, Act.put, List.setIfInBounds_toArray, List.set_cons_zero, List.set_cons_succ]
            refine RH_take (i := 1) (v := ?_) rfl (by kernel_rfl) (by kernel_rfl) (by kernel_rfl) (fun _ _ _ h => h) HS8.out (by rfl) ?_ ?_
            rotate_left
            · (intro w' hw'; obtain ⟨j0, j1⟩ := hw'; first | (go_simp; done) | (go_simp; with_reducible rfl))
            try simp only [List.getElem_toArray, List.getElem_cons_zero, List.getElem_cons_succ, Act.put, List.setIfInBounds_toArray, List.set_cons_zero, List.set_cons_succ]
            refine RH_take (i := 2) (v := ?_) rfl (by kernel_rfl) (by kernel_rfl) (by kernel_rfl) (fun _ _ _ h => h) HS8.out (by rfl) ?_ ?_
            rotate_left
            · (intro w' hw'; obtain ⟨j0, j1⟩ := hw'; first | (go_simp; done) | (go_simp; with_reducible rfl))
            try simp only [List.getElem_toArray, List.getElem_cons_zero, List.getElem_cons_succ, Act.put, List.setIfInBounds_toArray, List.set_cons_zero, List.set_cons_succ]
            refine RH_take (i := 3) (v := ?_) rfl (by kernel_rfl) (by kernel_rfl) (by kernel_rfl) (fun _ _ _ h => h) HS8.out (by rfl) ?_ ?_
            rotate_left
            · (intro w' hw'; obtain ⟨j0, j1⟩ := hw'; first | (go_simp; done) | (go_simp; with_reducible rfl))
            try simp only [List.getElem_toArray, List.getElem_cons_zero, List.getElem_cons_succ, Act.put, List.setIfInBounds_toArray, List.set_cons_zero, List.set_cons_succ]
            refine RH_take (i := 4) (v := ?_) rfl (by kernel_rfl) (by kernel_rfl) (by kernel_rfl) (fun _ _ _ h => h) HS8.out (by rfl) ?_ ?_
            rotate_left
            · (intro w' hw'; obtain ⟨j0, j1⟩ := hw'; first | (go_simp; done) | (go_simp; with_reducible rfl))
            try simp only [List.getElem_toArray, List.getElem_cons_zero, List.getElem_cons_succ, Act.put, List.setIfInBounds_toArray, List.set_cons_zero, List.set_cons_succ]
            refine RH_take (i := 5) (v := ?_) rfl (by kernel_rfl) (by kernel_rfl) (by kernel_rfl) (fun _ _ _ h => h) HS8.out (by rfl) ?_ ?_
            rotate_left
            · (intro w' hw'; obtain ⟨j0, j1⟩ := hw'; first | (go_simp; done) | (go_simp; with_reducible rfl))
            try simp only [List.getElem_toArray, List.getElem_cons_zero, List.getElem_cons_succ, Act.put, List.setIfInBounds_toArray, List.set_cons_zero, List.set_cons_succ]
            refine RH_step (i := 6) (by kernel_rfl) rfl (fun K hK => ?_)
            go_simp
            refine hK.out _ _ HS8.out ?_
            clear hK K
            try simp only [List.getElem_toArray, List.getElem_cons_zero, List.getElem_cons_succ, Act.put, List.setIfInBounds_toArray, List.set_cons_zero, List.set_cons_succ]
            refine RH_take (i := 7) (v := ?_) rfl (by kernel_rfl) (by kernel_rfl) (by kernel_rfl) (fun _ _ _ h => h) HS8.out (by rfl) ?_ ?_
            rotate_left
            · (intro w' hw'; obtain ⟨j0, j1⟩ := hw'; first | (go_simp; done) | (go_simp; with_reducible rfl))
            try simp only [List.getElem_toArray, List.getElem_cons_zero, List.getElem_cons_succ, Act.put, List.setIfInBounds_toArray, List.set_cons_zero, List.set_cons_succ]
            refine RH_step (i := 8) (by kernel_rfl) rfl (fun K hK => ?_)
            go_simp
            skip
            go_simp
            refine hK.out _ _ HS9.out ?_
            clear hK K
            try simp only [List.getElem_toArray, List.getElem_cons_zero, List.getElem_cons_succ, Act.put, List.setIfInBounds_toArray, List.set_cons_zero, List.set_cons_succ]
            refine wpAnyH_done (by kernel_rfl) ?_ _
            refine NoPanic.normal ?_
            clear hlook hput hwr HS8 HS9
            obtain ⟨c0, c1⟩ := ck_cells HR9.out
            have c6 := H9.out.cells.2.2.2.1
            have f6 := frozen_of_row w9 g 6 _ _ H9.out.row
            have H10 := Lib.hid (H9.out.setN hne nm)
            have HB10 := Lib.hid (HB9.out.setCell (p := ⟨g, 6, none⟩) hBg (.string (str nm)))
            go_wp2
            exact HPO.out 0 _ _ HAP0.out rfl HB10.out (fun _ => by rw [HEN.out]; exact H10.out)
  | false =>
    have HAP : Hid (ap = if (!fitsP f prev nm || !holdsP x ent nm l) = true then 2 else 0) := Lib.hid (by rw [HAP.out]; rfl)
    obtain ⟨c0, c1⟩ := ck_cells HR2.out
    go_wp2_with fail
    refine (fits_any H2.out nm hnm).mono ?_
    rintro e w3 ⟨rfl, hb3⟩
    have HR3 := Lib.hid (rf2 HR2.out hb3)
    have H3 := Lib.hid (H2.out.below hb3)
    have HD3 := Lib.hid (HD2.out.mono hb3)
    have HB3 := Lib.hid (HB2.out.trans (hb3.mono (HSZ.out _ HB2.out)))
    clear hb3 c0 c1 HR2 H2 HD2 HB2
    obtain ⟨c0, c1⟩ := ck_cells HR3.out
    generalize fitsP f prev nm = ft at *
    cases ft with
    | false =>
      have HR : Hid (ap = 2) := Lib.hid (by rw [HAP.out]; simp)
      clear HAP
      go_wp2
      exact HPO.out 2 _ _ HR.out rfl HB3.out (fun h => by cases h)
    | true =>
      go_wp2_with fail
      refine (holds_any H3.out HGX.out nm a len cap l HD3.out (by omega)).mono ?_
      rintro e w4 ⟨rfl, hb4⟩
      have HR4 := Lib.hid (rf2 HR3.out hb4)
      have H4 := Lib.hid (H3.out.below hb4)
      have HB4 := Lib.hid (HB3.out.trans (hb4.mono (HSZ.out _ HB3.out)))
      clear hb4 c0 c1 HR3 H3 HD3 HB3
      obtain ⟨c0, c1⟩ := ck_cells HR4.out
      generalize holdsP x ent nm l = hd at *
      cases hd with
      | false =>
        have HR : Hid (ap = 2) := Lib.hid (by rw [HAP.out]; simp)
        clear HAP
        go_wp2
        exact HPO.out 2 _ _ HR.out rfl HB4.out (fun h => by cases h)
      | true =>
        have HAP0 : Hid (ap = 0) := Lib.hid (by rw [HAP.out]; simp)
        clear HAP
        by_cases hPL : nm = Nm.PL
        · have e1 : ((str nm).toList == [80, 76, 84, 69]) = true := str_is nm _ true (by rw [hPL]; decide)
          have HEN : Hid (entP ent nm l = len / 3) := Lib.hid (by unfold entP; rw [if_pos hPL, HLL.out])
          have c7 := H4.out.cells.2.2.2.2
          have f7 := frozen_of_row w4 g 7 _ _ H4.out.row
          have hq3 := Lib.hid (show ((len / 3 : Nat) : Int) = (len : Int) / 3 by omega)
          have H5 : Hid (Sq (w4.setCell ⟨g, 7, none⟩ (.int .i64 ((len : Int) / 3))) g mb n x f prev (len / 3)) := Lib.hid (hq3.out ▸ H4.out.setE hne (len / 3))
          have HR5 : Hid ((w4.setCell ⟨g, 7, none⟩ (.int .i64 ((len : Int) / 3))).heap[bx]? = some (.cells #[.string (str nm), .slice a len cap] 26 (0, 0))) := Lib.hid (by rw [heap_setCell_other _ _ _ _ hgx.out]; exact HR4.out)
          have HB5 : Hid (Below B w (w4.setCell ⟨g, 7, none⟩ (.int .i64 ((len : Int) / 3)))) := Lib.hid (HB4.out.setCell (p := ⟨g, 7, none⟩) hBg _)
          clear hPL
          go_wp2_with fail
          clear c0 c1 c7 f7 hq3 HR4 H4 HB4 e1
          revert H5 HR5 HB5
          generalize (w4.setCell ⟨g, 7, none⟩ (.int .i64 ((len : Int) / 3))) = w5
          intro H5 HR5 HB5
          have H5d := Lib.hid (H5.out.below (Below.refl _ w5).drew)
          have hlook := H5d.out.cm.look (nm := nm) hnm
          obtain ⟨w9, hput, hcm9, hgr9⟩ := H5d.out.cm.put (nm := nm) hnm (by omega) (c := f nm + 1) (by omega)
          have hlt5 : g < w5.drew.heap.size := H5d.out.lt
          have hltx : bx < w5.drew.heap.size := (Array.getElem?_eq_some_iff.1 HR5.out).1
          have H9 : Hid (Sq w9 g mb (n + 1) x (bmp f nm) prev (len / 3)) := Lib.hid ⟨(hgr9.block g hlt5 (fun e => hne (Option.some.inj e))).trans H5d.out.row, hcm9⟩
          have hrow9 : w9.heap[bx]? = some (.cells #[.string (str nm), .slice a len cap] 26 (0, 0)) := (hgr9.block bx hltx (fun e => hmx.out (Option.some.inj e).symm)).trans HR5.out
          have HR9 := Lib.hid hrow9
          have HB9 : Hid (Below B w w9) := Lib.hid (HB5.out.drew.grown hgr9 (HSZ.out _ HB5.out.drew) (fun j hj => by cases hj; exact hBm))
          have HS8 : Hid (w5.drew.cell? ⟨g, 5, none⟩ = some (.map (some mb)) ∧ w5.drew.cell? ⟨bx, 0, none⟩ = some (.string (str nm))) := Lib.hid ⟨H5d.out.cells.2.2.1, (ck_cells HR5.out).1⟩
          have HS9 : Hid (w9.cell? ⟨g, 5, none⟩ = some (.map (some mb)) ∧ w9.cell? ⟨bx, 0, none⟩ = some (.string (str nm))) := Lib.hid ⟨H9.out.cells.2.2.1, (ck_cells hrow9).1⟩
          have hwr : IntKind.i64.wrap (((f nm : Nat) : Int) + 1) = ((f nm : Nat) : Int) + 1 := IntWalk.i64_in _ ⟨by omega, by omega⟩
          rw [show ((f nm + 1 : Nat) : Int) = ((f nm : Nat) : Int) + 1 by omega] at hput
          generalize f nm = fc at *
          clear hcm9 hgr9 hlt5 hltx hrow9 H5d H5 HR5 HB5
          refine wp_region_noPanic ?_
          refine region_RH (fun w' => w'.cell? ⟨g, 5, none⟩ = some (.map (some mb)) ∧ w'.cell? ⟨bx, 0, none⟩ = some (.string (str nm))) (by kernel_rfl) ?_
          refine RH_take (i := 0) (v := ?_) rfl (by kernel_rfl) (by kernel_rfl) (by kernel_rfl) (fun _ _ _ h => h) HS8.out (by rfl) ?_ ?_
          rotate_left
          · (intro w' hw'; obtain ⟨j0, j1⟩ := hw'; first | (go_simp; done) | (go_simp; with_reducible rfl))
          try simp only [List.getElem_toArray, List.getElem_cons_zero, List.getElem_cons_succ, Act.put, List.setIfInBounds_toArray, List.set_cons_zero, List.set_cons_succ]
          refine RH_take (i := 1) (v := ?_) rfl (by kernel_rfl) (by kernel_rfl) (by kernel_rfl) (fun _ _ _ h => h) HS8.out (by rfl) ?_ ?_
          rotate_left
          · (intro w' hw'; obtain ⟨j0, j1⟩ := hw'; first | (go_simp; done) | (go_simp; with_reducible rfl))
          try simp only [List.getElem_toArray, List.getElem_cons_zero, List.getElem_cons_succ, Act.put, List.setIfInBounds_toArray, List.set_cons_zero, List.set_cons_succ]
          refine RH_take (i := 2) (v := ?_) rfl (by kernel_rfl) (by kernel_rfl) (by kernel_rfl) (fun _ _ _ h => h) HS8.out (by rfl) ?_ ?_
          rotate_left
          · (intro w' hw'; obtain ⟨j0, j1⟩ := hw'; first | (go_simp; done) | (go_simp; with_reducible rfl))
          try simp only [List.getElem_toArray, List.getElem_cons_zero, List.getElem_cons_succ, Act.put, List.setIfInBounds_toArray, List.set_cons_zero, List.set_cons_succ]
          refine RH_take (i := 3) (v := ?_) rfl (by kernel_rfl) (by kernel_rfl) (by kernel_rfl) (fun _ _ _ h => h) HS8.out (by rfl) ?_ ?_
          rotate_left
          · (intro w' hw'; obtain ⟨j0, j1⟩ := hw'; first | (go_simp; done) | (go_simp; with_reducible rfl))
          try simp only [List.getElem_toArray, List.getElem_cons_zero, List.getElem_cons_succ, Act.put, List.setIfInBounds_toArray, List.set_cons_zero, List.set_cons_succ]
          refine RH_take (i := 4) (v := ?_) rfl (by kernel_rfl) (by kernel_rfl) (by kernel_rfl) (fun _ _ _ h => h) HS8.out (by rfl) ?_ ?_
          rotate_left
          · (intro w' hw'; obtain ⟨j0, j1⟩ := hw'; first | (go_simp; done) | (go_simp; with_reducible rfl))
          try simp only [List.getElem_toArray, List.getElem_cons_zero, List.getElem_cons_succ, Act.put, List.setIfInBounds_toArray, List.set_cons_zero, List.set_cons_succ]
          refine RH_take (i := 5) (v := ?_) rfl (by kernel_rfl) (by kernel_rfl) (by kernel_rfl) (fun _ _ _ h => h) HS8.out (by rfl) ?_ ?_
          rotate_left
          · (intro w' hw'; obtain ⟨j0, j1⟩ := hw'; first | (go_simp; done) | (go_simp; with_reducible rfl))
          try simp only [List.getElem_toArray, List.getElem_cons_zero, List.getElem_cons_succ, Act.put, List.setIfInBounds_toArray, List.set_cons_zero, List.set_cons_succ]
          refine RH_step (i := 6) (by kernel_rfl) rfl (fun K hK => ?_)
          go_simp
          refine hK.out _ _ HS8.out ?_
          clear hK K
          try simp only [List.getElem_toArray, List.getElem_cons_zero, List.getElem_cons_succ, Act.put, List.setIfInBounds_toArray, List.set_cons_zero, List.set_cons_succ]
          refine RH_take (i := 7) (v := ?_) rfl (by kernel_rfl) (by kernel_rfl) (by kernel_rfl) (fun _ _ _ h => h) HS8.out (by rfl) ?_ ?_
          rotate_left
          · (intro w' hw'; obtain ⟨j0, j1⟩ := hw'; first | (go_simp; done) | (go_simp; with_reducible rfl))
          try simp only [List.getElem_toArray, List.getElem_cons_zero, List.getElem_cons_succ, Act.put, List.setIfInBounds_toArray, List.set_cons_zero, List.set_cons_succ]
          refine RH_step (i := 8) (by kernel_rfl) rfl (fun K hK => ?_)
          go_simp
          skip
          go_simp
          refine hK.out _ _ HS9.out ?_
          clear hK K
          try simp only [List.getElem_toArray, List.getElem_cons_zero, List.getElem_cons_succ, Act.put, List.setIfInBounds_toArray, List.set_cons_zero, List.set_cons_succ]
          refine wpAnyH_done (by kernel_rfl) ?_ _
          refine NoPanic.normal ?_
          clear hlook hput hwr HS8 HS9
          obtain ⟨c0, c1⟩ := ck_cells HR9.out
          have c6 := H9.out.cells.2.2.2.1
          have f6 := frozen_of_row w9 g 6 _ _ H9.out.row
          have H10 := Lib.hid (H9.out.setN hne nm)
          have HB10 := Lib.hid (HB9.out.setCell (p := ⟨g, 6, none⟩) hBg (.string (str nm)))
          go_wp2
          exact HPO.out 0 _ _ HAP0.out rfl HB10.out (fun _ => by rw [HEN.out]; exact H10.out)
        · have e1 : ((str nm).toList == [80, 76, 84, 69]) = false := str_is nm _ false (by simpa [Nm.PL] using hPL)
          have HEN : Hid (entP ent nm l = ent) := Lib.hid (by unfold entP; rw [if_neg hPL])
          clear hPL
          go_wp2_with fail
          clear c0 c1 e1
          have H5 := H4
          have HR5 := HR4
          have HB5 := HB4
          clear H4 HR4 HB4
          revert H5 HR5 HB5
          generalize w4 = w5
          intro H5 HR5 HB5
          have H5d := Lib.hid (H5.out.below (Below.refl _ w5).drew)
          have hlook := H5d.out.cm.look (nm := nm) hnm
          obtain ⟨w9, hput, hcm9, hgr9⟩ := H5d.out.cm.put (nm := nm) hnm (by omega) (c := f nm + 1) (by omega)
          have hlt5 : g < w5.drew.heap.size := H5d.out.lt
          have hltx : bx < w5.drew.heap.size := (Array.getElem?_eq_some_iff.1 HR5.out).1
          have H9 : Hid (Sq w9 g mb (n + 1) x (bmp f nm) prev ent) := Lib.hid ⟨(hgr9.block g hlt5 (fun e => hne (Option.some.inj e))).trans H5d.out.row, hcm9⟩
          have hrow9 : w9.heap[bx]? = some (.cells #[.string (str nm), .slice a len cap] 26 (0, 0)) := (hgr9.block bx hltx (fun e => hmx.out (Option.some.inj e).symm)).trans HR5.out
          have HR9 := Lib.hid hrow9
          have HB9 : Hid (Below B w w9) := Lib.hid (HB5.out.drew.grown hgr9 (HSZ.out _ HB5.out.drew) (fun j hj => by cases hj; exact hBm))
          have HS8 : Hid (w5.drew.cell? ⟨g, 5, none⟩ = some (.map (some mb)) ∧ w5.drew.cell? ⟨bx, 0, none⟩ = some (.string (str nm))) := Lib.hid ⟨H5d.out.cells.2.2.1, (ck_cells HR5.out).1⟩
          have HS9 : Hid (w9.cell? ⟨g, 5, none⟩ = some (.map (some mb)) ∧ w9.cell? ⟨bx, 0, none⟩ = some (.string (str nm))) := Lib.hid ⟨H9.out.cells.2.2.1, (ck_cells hrow9).1⟩
          have hwr : IntKind.i64.wrap (((f nm : Nat) : Int) + 1) = ((f nm : Nat) : Int) + 1 := IntWalk.i64_in _ ⟨by omega, by omega⟩
          rw [show ((f nm + 1 : Nat) : Int) = ((f nm : Nat) : Int) + 1 by omega] at hput
          generalize f nm = fc at *
          clear hcm9 hgr9 hlt5 hltx hrow9 H5d H5 HR5 HB5
          refine wp_region_noPanic ?_
          refine region_RH (fun w' => w'.cell? ⟨g, 5, none⟩ = some (.map (some mb)) ∧ w'.cell? ⟨bx, 0, none⟩ = some (.string (str nm))) (by kernel_rfl) ?_
          refine RH_take (i := 0) (v := ?_) rfl (by kernel_rfl) (by kernel_rfl) (by kernel_rfl) (fun _ _ _ h => h) HS8.out (by rfl) ?_ ?_
          rotate_left
          · (intro w' hw'; obtain ⟨j0, j1⟩ := hw'; first | (go_simp; done) | (go_simp; with_reducible rfl))
          try simp only [List.getElem_toArray, List.getElem_cons_zero, List.getElem_cons_succ, Act.put, List.setIfInBounds_toArray, List.set_cons_zero, List.set_cons_succ]
          refine RH_take (i := 1) (v := ?_) rfl (by kernel_rfl) (by kernel_rfl) (by kernel_rfl) (fun _ _ _ h => h) HS8.out (by rfl) ?_ ?_
          rotate_left
          · (intro w' hw'; obtain ⟨j0, j1⟩ := hw'; first | (go_simp; done) | (go_simp; with_reducible rfl))
          try simp only [List.getElem_toArray, List.getElem_cons_zero, List.getElem_cons_succ, Act.put, List.setIfInBounds_toArray, List.set_cons_zero, List.set_cons_succ]
          refine RH_take (i := 2) (v := ?_) rfl (by kernel_rfl) (by kernel_rfl) (by kernel_rfl) (fun _ _ _ h => h) HS8.out (by rfl) ?_ ?_
          rotate_left
          · (intro w' hw'; obtain ⟨j0, j1⟩ := hw'; first | (go_simp; done) | (go_simp; with_reducible rfl))
          try simp only [List.getElem_toArray, List.getElem_cons_zero, List.getElem_cons_succ, Act.put, List.setIfInBounds_toArray, List.set_cons_zero, List.set_cons_succ]
          refine RH_take (i := 3) (v := ?_) rfl (by kernel_rfl) (by kernel_rfl) (by kernel_rfl) (fun _ _ _ h => h) HS8.out (by rfl) ?_ ?_
          rotate_left
          · (intro w' hw'; obtain ⟨j0, j1⟩ := hw'; first | (go_simp; done) | (go_simp; with_reducible rfl))
          try simp only [List.getElem_toArray, List.getElem_cons_zero, List.getElem_cons_succ, Act.put, List.setIfInBounds_toArray, List.set_cons_zero, List.set_cons_succ]
          refine RH_take (i := 4) (v := ?_) rfl (by kernel_rfl) (by kernel_rfl) (by kernel_rfl) (fun _ _ _ h => h) HS8.out (by rfl) ?_ ?_
          rotate_left
          · (intro w' hw'; obtain ⟨j0, j1⟩ := hw'; first | (go_simp; done) | (go_simp; with_reducible rfl))
          try simp only [List.getElem_toArray, List.getElem_cons_zero, List.getElem_cons_succ, Act.put, List.setIfInBounds_toArray, List.set_cons_zero, List.set_cons_succ]
          refine RH_take (i := 5) (v := ?_) rfl (by kernel_rfl) (by kernel_rfl) (by kernel_rfl) (fun _ _ _ h => h) HS8.out (by rfl) ?_ ?_
          rotate_left
          · (intro w' hw'; obtain ⟨j0, j1⟩ := hw'; first | (go_simp; done) | (go_simp; with_reducible rfl))
          try simp only [List.getElem_toArray, List.getElem_cons_zero, List.getElem_cons_succ, Act.put, List.setIfInBounds_toArray, List.set_cons_zero, List.set_cons_succ]
          refine RH_step (i := 6) (by kernel_rfl) rfl (fun K hK => ?_)
          go_simp
          refine hK.out _ _ HS8.out ?_
          clear hK K
          try simp only [List.getElem_toArray, List.getElem_cons_zero, List.getElem_cons_succ, Act.put, List.setIfInBounds_toArray, List.set_cons_zero, List.set_cons_succ]
          refine RH_take (i := 7) (v := ?_) rfl (by kernel_rfl) (by kernel_rfl) (by kernel_rfl) (fun _ _ _ h => h) HS8.out (by rfl) ?_ ?_
          rotate_left
          · (intro w' hw'; obtain ⟨j0, j1⟩ := hw'; first | (go_simp; done) | (go_simp; with_reducible rfl))
          try simp only [List.getElem_toArray, List.getElem_cons_zero, List.getElem_cons_succ, Act.put, List.setIfInBounds_toArray, List.set_cons_zero, List.set_cons_succ]
          refine RH_step (i := 8) (by kernel_rfl) rfl (fun K hK => ?_)
          go_simp
          skip
          go_simp
          refine hK.out _ _ HS9.out ?_
          clear hK K
          try simp only [List.getElem_toArray, List.getElem_cons_zero, List.getElem_cons_succ, Act.put, List.setIfInBounds_toArray, List.set_cons_zero, List.set_cons_succ]
          refine wpAnyH_done (by kernel_rfl) ?_ _
          refine NoPanic.normal ?_
          clear hlook hput hwr HS8 HS9
          obtain ⟨c0, c1⟩ := ck_cells HR9.out
          have c6 := H9.out.cells.2.2.2.1
          have f6 := frozen_of_row w9 g 6 _ _ H9.out.row
          have H10 := Lib.hid (H9.out.setN hne nm)
          have HB10 := Lib.hid (HB9.out.setCell (p := ⟨g, 6, none⟩) hBg (.string (str nm)))
          go_wp2
          exact HPO.out 0 _ _ HAP0.out rfl HB10.out (fun _ => by rw [HEN.out]; exact H10.out)
end Hd
end Go.Proofs.Ytbgaaocgdjkkeaa
end
