/- For all chunks Order answers the head, or the error, that the document does, and leaves the chunks and their data as they were; the fixed example holds. Of more than 60 chunks, of data of more than 2000 bytes and of names of more than 100 nothing is asked. No conditions. -/
import Derived.Test.YtbgaaocgdjkkeaaRows
import Derived.Test.YtbgaaocgdjkkeaaZ2
import Derived.Test.YtbgaaocgdjkkeaaZ9
import Derived.Test.YtbgaaocgdjkkeaaZ43
import Derived.Test.YtbgaaocgdjkkeaaZ49
import Derived.Test.YtbgaaocgdjkkeaaZ51
import Derived.Test.YtbgaaocgdjkkeaaZ53
import Derived.Test.YtbgaaocgdjkkeaaZ54
set_option linter.unusedSimpArgs false
set_option linter.unusedVariables false
namespace Go.Proofs.Ytbgaaocgdjkkeaa.HeadOrders
open Go.ChangeShapes Go.WideShapes Go.ChangeAt Go.RowKit
open Go.ChangeMaps (open_string shut_string)
set_option linter.unusedVariables false
theorem own : ownKnob Try.prog.godebug = none := by kernel_rfl
theorem laidOut : laidOutB Try.prog = true := by kernel_rfl
theorem size_le (M : Nat) : ∀ L : List Ck.C, (∀ c ∈ L, c.2.length ≤ M) → Ck.size L ≤ L.length * (12 + M)
  | [], _ => by simp [Ck.size]
  | c :: L, h => by
    have h1 := size_le M L (fun x hx => h x (List.mem_cons_of_mem _ hx))
    have h2 := h c List.mem_cons_self
    have e : Ck.size (c :: L) = (12 + c.2.length) + Ck.size L := by simp [Ck.size]
    rw [e, List.length_cons, Nat.succ_mul]
    omega
set_option maxRecDepth 100000 in
set_option maxHeartbeats 4000000 in
theorem walk (a : Option Addr) (len cap : Nat) (l : List Ckm) (w : World) (h : Cs w a len cap l) (hr : cap * 40 ≤ 140737488351232) (hd : ∀ c ∈ l, c.n.length ≤ 140737488351232 ∧ c.s.cap ≤ 140737488351232) :
    Calls Try.prog 3 #[.slice a len cap] w fun e w' => e = .returned (.bool true) ∧ Below w.heap.size w w' := by
  have hle := h.hle
  have HL := Lib.hid h.hlen
  have H := Lib.hid h
  have HDL : Hid (∀ c ∈ l, c.n.length ≤ 140737488351232 ∧ c.s.len ≤ 140737488351232) := Lib.hid (fun c hc => ⟨(hd c hc).1, by have h1 := (hd c hc).2; have h2 := (h.data hc).hle; omega⟩)
  clear h hd
  go_enter Try.func3, Try.ntmps3
  go_wp2_with fail
  refine (Hd.alive13_any w).mono ?_
  rintro e w1 ⟨rfl, hb1⟩
  have HB1 := Lib.hid hb1
  clear hb1
  go_wp2
  go_loopw [3, 19] (fun v i wr => ∃ k : Nat, k ≤ len ∧ i = .int .i64 k ∧ v = .int .i64 k ∧ Hid (k ≤ 60 ∧ ∀ j, j < k → (nck l j).s.len ≤ 2000 ∧ (nck l j).n.length ≤ 100) ∧ Hid (Below w.heap.size w wr)) (fun _ i _ => len - (intOf i).toNat)
  case atStart => exact ⟨0, by omega, rfl, rfl, Lib.hid ⟨by omega, fun j hj => by omega⟩, HB1⟩
  case round =>
    clear HB1
    obtain ⟨k, hk, rfl, rfl, HS, HB⟩ := hrel
    by_cases hlt : k < len
    · obtain ⟨b, off, rfl, hb, c0, c1, _⟩ := (H.out.mono HB.out).at' k hlt
      have hbx := below_alloc wr (.cells #[.string (str (nck l k).n), (nck l k).s.val] 26)
      have hq := heap_alloc_last wr (.cells #[.string (str (nck l k).n), (nck l k).s.val] 26)
      have HB2 := Lib.hid (below_then HB.out hbx)
      have hdl := HDL.out _ (nck_mem l k (by rw [HL.out]; exact hlt))
      have HS2 : Hid (k + 1 ≤ 60 → (nck l k).s.len ≤ 2000 → (nck l k).n.length ≤ 100 → k + 1 ≤ 60 ∧ ∀ j, j < k + 1 → (nck l j).s.len ≤ 2000 ∧ (nck l j).n.length ≤ 100) := Lib.hid (fun h1 h2 h3 => ⟨h1, fun j hj => by
        by_cases e : j < k
        · exact HS.out.2 j e
        · obtain rfl : j = k := by omega
          exact ⟨h2, h3⟩⟩)
      have hk60 := HS.out.1
      clear hbx HS
      generalize nck l k = c at *
      obtain ⟨nm, sa, sn, sc, sd⟩ := c
      unfold Sl.val at c1 hq HB2
      simp only at c0 c1 hq HB2 hdl HS2
      have x0 : (wr.alloc (.cells #[.string (str nm), .slice sa sn sc] 26)).cell? ⟨wr.heap.size, 0, none⟩ = some (.string (str nm)) := (cell_of_row _ _ 0 _ _ (0, 0) hq).trans rfl
      have x1 : (wr.alloc (.cells #[.string (str nm), .slice sa sn sc] 26)).cell? ⟨wr.heap.size, 1, none⟩ = some (.slice sa sn sc) := (cell_of_row _ _ 1 _ _ (0, 0) hq).trans rfl
      obtain ⟨z, hz⟩ : ∃ z, (str nm).size = z := ⟨_, rfl⟩
      have hzn : nm.length = z := by rw [← hz, str_size]
      rw [hzn] at HS2 hdl
      clear hq hzn
      by_cases h60 : 60 < k + 1
      · have d1 : decide ((60 : Int) < (k : Int) + 1) = true := by simp; omega
        clear h60 HS2
        go_wp2
        go_ret
        exact ⟨rfl, HB2.out⟩
      have d1 : decide ((60 : Int) < (k : Int) + 1) = false := by simp; omega
      by_cases h2000 : 2000 < sn
      · have d2 : decide ((2000 : Int) < (sn : Int)) = true := by simp; omega
        clear h60 h2000 HS2
        go_wp2
        go_ret
        exact ⟨rfl, HB2.out⟩
      have d2 : decide ((2000 : Int) < (sn : Int)) = false := by simp; omega
      by_cases h100 : 100 < z
      · have d3 : decide ((100 : Int) < (z : Int)) = true := by simp; omega
        clear h60 h2000 h100 HS2
        go_wp2
        go_ret
        exact ⟨rfl, HB2.out⟩
      have d3 : decide ((100 : Int) < (z : Int)) = false := by simp; omega
      have HS3 := Lib.hid (HS2.out (by omega) (by omega) (by omega))
      clear h60 h2000 h100 HS2
      go_wp2
      go_roundw
      case rel => exact ⟨k + 1, by omega, by go_num, by go_num, HS3, HB2⟩
      case measure => simp [intOf]; omega
    · obtain rfl : len = k := by omega
      have HSM := Lib.hid HS.out.2
      have hl60 := HS.out.1
      clear HS hk hlt
      have hsz2 := HB.out.size
      have HO3 : Hid (Cpl (wr.alloc (.cells #[] 26)) w.heap.size (.slice (some ⟨wr.heap.size, 0, none⟩) 0 0) l 0 []) := Lib.hid ⟨rfl, World.ownsRow_made wr #[] 0 hsz2 (by unfold maxLen; omega) rfl, fun i hi => absurd hi (by omega)⟩
      have HB3 := Lib.hid (HB.out.alloc hsz2 (.cells #[] 26))
      clear HB
      go_wp2
      revert HO3 HB3
      generalize (wr.alloc (.cells #[] 26)) = w3
      generalize (some (⟨wr.heap.size, 0, none⟩ : Addr)) = a3
      intro HO3 HB3
      clear hsz2
      go_loopw [6, 43] (fun v i wr => ∃ (k : Nat) (ms : List Ckm), k ≤ len ∧ i = .int .i64 k ∧ Hid (Cpl wr w.heap.size v l k ms) ∧ Hid (Below w.heap.size w wr)) (fun _ i _ => len - (intOf i).toNat)
      case atStart => exact ⟨0, [], by omega, rfl, HO3, HB3⟩
      case round =>
        clear HO3 HB3
        obtain ⟨k, ms, hk, rfl, HC, HB⟩ := hrel
        by_cases hlt : k < len
        · have hkl : k < l.length := by rw [HL.out]; exact hlt
          obtain ⟨b, off, rfl, hb, c0, c1, hs⟩ := (H.out.mono HB.out).at' k hlt
          have hs0 := H.out.data (nck_mem l k hkl)
          have hdl := HSM.out k hlt
          have hbx := below_alloc wr (.cells #[.string (str (nck l k).n), (nck l k).s.val] 26)
          have hq := heap_alloc_last wr (.cells #[.string (str (nck l k).n), (nck l k).s.val] 26)
          have hll : (nck l k).s.l.length = (nck l k).s.len := hs.hlen
          have HCB := Lib.hid (HC.out.below hbx)
          have HSB := Lib.hid (Bs.mono hs hbx)
          have HBB := Lib.hid (HB.out.trans (hbx.mono HB.out.size))
          have hln : (nck l k).s.len ≤ 1048576 := by omega
          have HPU := Lib.hid (fun (w5 w9 : World) (v' : Value) (g : Nat) (h1 : Cpl w5 w.heap.size u6 l k ms) => h1.push (g := g) (w' := w9) (v' := v') hln hll)
          obtain ⟨c, hc⟩ : ∃ c, nck l k = c := ⟨_, rfl⟩
          rw [hc] at c0 c1 hq HCB HSB HBB HPU hln hll
          clear hc hs0 hs hdl hb hbx
          obtain ⟨nm, sa, sn, sc, sd⟩ := c
          unfold Sl.val at c1 hq HCB HSB HBB
          simp only at c0 c1 hq HCB HSB HBB HPU hln hll
          have hlt4 := (Array.getElem?_eq_some_iff.1 hq).1
          go_wp2_with fail
          obtain ⟨w4, hw4⟩ : ∃ w4, (wr.alloc (.cells #[.string (str nm), .slice sa sn sc] 26)) = w4 := ⟨_, rfl⟩
          rw [hw4] at hq HCB HSB HBB hlt4 ⊢
          clear hw4
          have x0 : w4.cell? ⟨wr.heap.size, 0, none⟩ = some (.string (str nm)) := (cell_of_row _ _ 0 _ _ (0, 0) hq).trans rfl
          have x1 : w4.cell? ⟨wr.heap.size, 1, none⟩ = some (.slice sa sn sc) := (cell_of_row _ _ 1 _ _ (0, 0) hq).trans rfl
          have HSD : Hid (Bs w4.drew sa sn sc sd) := Lib.hid (HSB.out.mono ((Below.refl _ w4).drew))
          clear hq
          have HU3 : Hid (∀ g, u6.ownBlock = some g → g < wr.heap.size) := Lib.hid (fun g hg => (HC.out.own.lt g hg).2)
          go_region_held3 (fun w' => w'.cell? ⟨wr.heap.size, 0, none⟩ = some (.string (str nm)) ∧ w'.cell? ⟨wr.heap.size, 1, none⟩ = some (.slice sa sn sc)) (first | (with_reducible exact ⟨x0, x1⟩) | (with_reducible exact ⟨y0, y1⟩) | (with_reducible exact ⟨z0, z1⟩) | go_keep)
            (first
              | (go_at_call 10; (with_reducible refine (copy_any _ _ _ _ _ HSD.out (by omega)).mono ?_); rintro e w5 ⟨g5, rfl, own5, hb5⟩; have hb5 : Below w4.heap.size w4 w5 := ((Below.refl _ w4).drew).trans hb5; have y0 := (hb5.cell (p := ⟨wr.heap.size, 0, none⟩) hlt4).trans x0; have y1 := (hb5.cell (p := ⟨wr.heap.size, 1, none⟩) hlt4).trans x1; have HCB5 := Lib.hid (HCB.out.below hb5); have HBB5 := Lib.hid (below_then HBB.out hb5); have hg5 := (own5.lt g5 rfl); have HO5 := Lib.hid own5; have hlt5 := Nat.lt_of_lt_of_le hlt4 hb5.size; have hlt6 : wr.heap.size < (w5.alloc (.cells #[.string (str nm), .slice (some ⟨g5, 0, none⟩) sn (sn + 2)] 26)).heap.size := by simp; omega
                 have HSR := Lib.hid (src_ck w5 ⟨nm, ⟨some ⟨g5, 0, none⟩, sn, sn + 2, sd⟩⟩ 26); have hb6 := below_alloc w5 (.cells #[.string (str nm), .slice (some ⟨g5, 0, none⟩) sn (sn + 2)] 26); have HCB6 := Lib.hid (HCB5.out.below hb6); have HBB6 := Lib.hid (below_then HBB5.out hb6); have HO6 := Lib.hid (own_base (base' := w.heap.size) (own_below own5 hb6) (fun g hg => by have h1 := (own5.lt g hg).1; have h2 := HBB.out.size; have h3 : w4.drew.heap.size = w4.heap.size := rfl; omega)); have hb6s : w.heap.size ≤ (w5.alloc (.cells #[.string (str nm), .slice (some ⟨g5, 0, none⟩) sn (sn + 2)] 26)).heap.size := HBB6.out.size; have HY := Lib.hid (And.intro ((hb6.cell (p := ⟨wr.heap.size, 0, none⟩) hlt5).trans y0) ((hb6.cell (p := ⟨wr.heap.size, 1, none⟩) hlt5).trans y1)); have HG5 : Hid (u6.ownBlock ≠ some g5) := Lib.hid (fun e => by have h1 := HU3.out g5 e; have h2 := (own5.lt g5 rfl).1; have h3 : w4.drew.heap.size = w4.heap.size := rfl; omega); unfold Sl.val at HSR; simp only at HSR; clear own5 hb5 hb6)
              | (refine step_app3 tyK rfl _ _ rfl HCB6.out.own HSR.out rfl rfl (by omega) (by omega) hb6s ?_; intro v9 w9 own9 ch9 bk9; have z0 := (World.cell?_of_block (a := ⟨wr.heap.size, 0, none⟩) (ch9.block wr.heap.size hlt6 (fun e => Nat.lt_irrefl _ (HU3.out _ e)))).trans HY.out.1; have z1 := (World.cell?_of_block (a := ⟨wr.heap.size, 1, none⟩) (ch9.block wr.heap.size hlt6 (fun e => Nat.lt_irrefl _ (HU3.out _ e)))).trans HY.out.2; have HC9 := Lib.hid (HPU.out _ w9 v9 g5 HCB6.out HO6.out HG5.out own9 ch9 bk9); have HB9 := Lib.hid (HBB6.out.trans (ch9.below hb6s (fun k hk => (HCB6.out.own.lt k hk).1))); clear own9 ch9 bk9)
              | fail)
          clear HCB HCB5 HCB6 HBB HBB5 HBB6 HSB HSD HSR HO5 HO6 HY HPU x0 x1 y0 y1 z0 z1 HG5 HU3 hb6s
          go_wp2
          go_roundw
          case rel => exact ⟨k + 1, _, by omega, by go_num, HC9, HB9⟩
          case measure => simp [intOf]; omega
        · obtain rfl : len = k := by omega
          have hcps : cps ms = cps l := by have := HC.out; rw [← HL.out] at this; exact this.cps
          obtain ⟨av, cv, rfl, hcs⟩ := HC.out.cs
          have hnm : ∀ c ∈ ms, c.n.length ≤ 140737488351232 ∧ c.s.len ≤ 140737488351232 := fun c hm => by
            obtain ⟨i, hi, rfl⟩ := List.getElem_of_mem hm
            have hil : i < len := by rw [← HC.out.len]; exact hi
            obtain ⟨q1, q2, q3, q4, q5, q6, _⟩ := HC.out.data i hil
            rw [nck_get ms i hi] at q1 q3
            have hlm := HDL.out _ (nck_mem l i (by rw [HL.out]; exact hil))
            rw [q1, q3]
            omega
          have hsize : 8 + Ck.size (cps ms) ≤ 1048576 := by
            rw [hcps]
            have h1 := size_le 2000 (cps l) (fun c hc => by
              obtain ⟨i, hi, rfl⟩ := List.getElem_of_mem hc
              rw [cps_length] at hi
              have hil : i < len := by rw [← HL.out]; exact hi
              obtain ⟨_, _, _, _, _, q6, _⟩ := HC.out.data i hil
              have h2 := (HSM.out i hil).1
              have h3 : (cps l)[i] = (nck l i).c := by rw [nck_get l i hi]; simp [cps]
              rw [h3]
              show (nck l i).s.l.length ≤ 2000
              omega)
            rw [cps_length, HL.out] at h1
            have : len * (12 + 2000) ≤ 60 * 2012 := Nat.mul_le_mul hl60 (Nat.le_refl _)
            omega
          have hor := Hd.order_any av len cv ms wr hcs (by omega) hnm hsize (by omega)
          unfold Hd.OrPost at hor
          rw [hcps, Hd.ord_eq] at hor
          have HRO := Lib.hid (fun W (hb : Below w.heap.size w W) => Hd.refOrder_any a len cap l W (H.out.mono hb) (by omega) (fun c hc => ⟨(HDL.out c hc).1, by
            obtain ⟨i, hi, rfl⟩ := List.getElem_of_mem hc
            have hil : i < len := by rw [← HL.out]; exact hi
            have h2 := (HSM.out i hil).1
            rw [nck_get l i hi] at h2
            omega⟩) (by omega))
          unfold Hd.RoPost at HRO
          have HOR := Lib.hid hor
          have HCS := Lib.hid hcs
          clear hor hcs hnm hsize hcps
          generalize (Hd.ordR (cps l)).2 = y at *
          generalize (Hd.ordR (cps l)).1 = nn at *
          have HEQ := Lib.hid (fun w => hd_same y w)
          have HNM := Lib.hid (fun w => Hd.num_errV nn w)
          generalize Hd.errV nn = ev at *
          have HBN := Lib.hid (fun w => Hd.bx_new w y)
          have HBA := Lib.hid (fun w => below_alloc w (.cells #[.int .i64 y.w, .int .i64 y.h, .int .i64 y.d, .int .i64 y.c, .int .i64 y.l] 29))
          unfold Hd.H.val at HOR HRO HEQ
          obtain ⟨yw, yh, yd, yc, yl⟩ := y
          simp only at HOR HRO HEQ HBN HBA
          go_wp2_with fail
          refine HOR.out.mono ?_
          rintro e w5 ⟨rfl, hb5⟩
          have HX7 := Lib.hid (HBN.out w5)
          have HB8 := Lib.hid (below_then (below_then HB.out hb5) (HBA.out w5))
          have HC8 := Lib.hid ((HC.out.below hb5).below (HBA.out w5))
          have HCS8 := Lib.hid ((HCS.out.mono hb5).mono (HBA.out w5))
          have HR8 := Lib.hid (HRO.out _ HB8.out)
          clear hb5 HOR HC HCS HB HRO
          go_wp2_with fail
          refine HR8.out.mono ?_
          rintro e w9 ⟨rfl, hb9⟩
          have HX10 := Lib.hid (HBN.out w9)
          have HX11 := Lib.hid ((HX7.out.below hb9).below (HBA.out w9))
          have HB11 := Lib.hid (below_then (below_then HB8.out hb9) (HBA.out w9))
          have HC11 := Lib.hid ((HC8.out.below hb9).below (HBA.out w9))
          have HCS11 := Lib.hid ((HCS8.out.mono hb9).mono (HBA.out w9))
          have hmx := HCS11.out.hle
          clear hb9 HR8 HX7 HB8 HC8 HCS8
          go_wp2
          generalize (w9.alloc (.cells #[.int .i64 yw, .int .i64 yh, .int .i64 yd, .int .i64 yc, .int .i64 yl] 29)) = wz at HX10 HX11 HB11 HC11 HCS11 ⊢
          generalize w9.heap.size = h9 at HX10 ⊢
          generalize w5.heap.size = h7 at HX11 ⊢
          have HB5 := HB11
          have HC5 := HC11
          have HCS5 := HCS11
          clear HBN HBA HB11 HC11 HCS11
          go_loopw [13, 14, 69] (fun _ _ i wq => ∃ k : Nat, k ≤ len ∧ i = .int .i64 k ∧ Hid (Below wz.heap.size wz wq)) (fun _ _ i _ => len - (intOf i).toNat)
          case atStart => exact ⟨0, by omega, rfl, Lib.hid (Below.refl _ _)⟩
          case round =>
            obtain ⟨k, hk, rfl, HBQ⟩ := hrel
            by_cases hlt : k < len
            · have hsm := (HSM.out k hlt).1
              obtain ⟨b2, off2, rfl, hb2, c2, e2, _⟩ := (HCS5.out.mono HBQ.out).at' k hlt
              obtain ⟨b1, off1, rfl, hb1, c1, e1, s1⟩ := ((H.out.mono HB5.out).mono HBQ.out).at' k hlt
              obtain ⟨q1, q2, q3, q4, q5, q6, g, q7, _, q9⟩ := (HC5.out.below HBQ.out).data k hlt
              unfold Sl.val at e1 e2
              rw [q7, q3, q4] at e2
              rw [q1] at c2
              have s1 : Bs wr (nck l k).s.a (nck l k).s.len (nck l k).s.cap (nck l k).s.l := s1
              clear q1 q2 q3 q4 q6 q7
              generalize nck l k = c at *
              obtain ⟨nm, sa, sn, sc, sd⟩ := c
              simp only at *
              have hbx := below_alloc wr (.cells #[.string (str nm), .slice (some ⟨g, 0, none⟩) sn (sn + 2)] 26)
              have hq := heap_alloc_last wr (.cells #[.string (str nm), .slice (some ⟨g, 0, none⟩) sn (sn + 2)] 26)
              have HBX := Lib.hid (HBQ.out.trans (hbx.mono HBQ.out.size))
              have o9 := own_below q9 hbx
              have s9 := s1.mono hbx
              have y0 := (hbx.cell (p := ⟨b1, off1 + k * 2, none⟩) hb1).trans c1
              have y1 := (hbx.cell (p := ⟨b1, off1 + k * 2 + 1, none⟩) hb1).trans e1
              clear hbx q9 s1 c1 e1
              go_wp2_with fail
              obtain ⟨w6, hw6⟩ : ∃ w6, (wr.alloc (.cells #[.string (str nm), .slice (some ⟨g, 0, none⟩) sn (sn + 2)] 26)) = w6 := ⟨_, rfl⟩
              rw [hw6] at hq HBX o9 s9 y0 y1 ⊢
              have x0 : w6.cell? ⟨wr.heap.size, 0, none⟩ = some (.string (str nm)) := (cell_of_row _ _ 0 _ _ (0, 0) hq).trans rfl
              have x1 : w6.cell? ⟨wr.heap.size, 1, none⟩ = some (.slice (some ⟨g, 0, none⟩) sn (sn + 2)) := (cell_of_row _ _ 1 _ _ (0, 0) hq).trans rfl
              have HK := Lib.hid (fun n => (kept_any g sn sa sc sd (w6.drewN n) w.heap.size (by omega) (own_below o9 (drewN_is w6 n)) (s9.mono (drewN_is w6 n))).mono (R' := fun e w' => e = .returned (.bool true) ∧ w' = w6.drewN n) (fun e w' h => ⟨h.1, h.2.symm⟩))
              have hnn : ((str nm).toList == (str nm).toList) = true := beq_self_eq_true _
              have HBN := Lib.hid (fun n => HBX.out.trans ((drewN_is w6 n).mono HBX.out.size))
              clear hw6 hq o9 s9 c2 e2
              go_quiet (first | (go_at_call 13; exact Calls.quiet_of_same (HK.out _)))
              go_wp2
              go_roundw
              case rel => exact ⟨k + 1, by omega, by go_num, Lib.hid (HBN.out _)⟩
              case measure => simp [intOf]; omega
            · obtain rfl : len = k := by omega
              have HBF := Lib.hid (HB5.out.trans (HBQ.out.mono HB5.out.size))
              have HX12 := Lib.hid (HX10.out.below HBQ.out)
              have HX13 := Lib.hid (HX11.out.below HBQ.out)
              obtain ⟨x0, x1, x2, x3, x4⟩ := HX12.out.cells
              obtain ⟨y0, y1, y2, y3, y4⟩ := HX13.out.cells
              simp only at x0 x1 x2 x3 x4 y0 y1 y2 y3 y4
              have heq := HEQ.out
              have hnn : ((nn : Int) == (nn : Int)) = true := beq_self_eq_true _
              clear HX10 HX11 HX12 HX13 HBQ HB5 HC5 HCS5
              go_wp2_with fail
              refine (HNM.out _).mono ?_
              rintro e w' ⟨rfl, rfl⟩
              go_wp2
              go_ret
              exact ⟨rfl, HBF.out⟩
set_option maxRecDepth 100000 in
theorem lifted (os : Os) (started : os.Started) (H : Type) (enc : TypeId × Value → H) :
    ReturnsInHanded {} Try.checked os 3 .any (Rows.headOrdersSpec.pre6 enc Try.prog Try.f3 Rows.headOrdersRow.domain false) (Rows.headOrdersSpec.post enc Try.prog Try.f3 false true false false) := by
  refine returnsInHanded_of_change_sized (C := Try.checked) own started (by kernel_rfl) Try.func3
    (ChangeSpec.witness6 (enc := enc) (C := Try.checked) false ⟨#[], #[.slice none 0 0], []⟩ 8 (by kernel_rfl) (by kernel_rfl) (by kernel_rfl) (by kernel_rfl)) ?_
  intro W base args ds gs before hval0 hW _ hsz0 _
  have hval : ∀ (j : Nat) t v, Try.f3.params[j]? = some t → args[j]? = some v → Value.okWide Try.prog W .any base t v := hval0
  have hsz : (DataW.weightsEach Try.prog (Try.f3.params.toList ++ Rows.headOrdersSpec.plain.varTypes Try.prog) (ds ++ gs)).all (· ≤ reachBytes) = true := hsz0
  have hW' := hW
  obtain ⟨p, q, hA0, hV, rfl, hfz, hnd⟩ := hW
  have hA : DataW.TrodAll enc Try.prog W 0 (fun _ => true) true Try.f3.params.toList args.toList ds p := hA0
  rw [Try.params3] at hA hval hsz
  obtain ⟨v0, vs0, d0, ds0, p0, q0, hargs, rfl, rfl, h0, r0⟩ := trodAll_cons hA
  obtain ⟨rfl, rfl, rfl⟩ := trodAll_nil r0
  obtain rfl : args = #[v0] := by cases args; simp_all
  obtain ⟨rfl, rfl⟩ := trodVars_none hV
  clear hsz0
  obtain ⟨a0, len0, cap0, rfl⟩ := okWide_slice Try.underlying22 (hval 0 22 v0 rfl rfl)
  have k0 := h0
  have lt0 : ∀ x ∈ p0, x.block < W.heap.size := by obtain ⟨m, hm⟩ := k0; exact DataW.trod_lt m _ _ _ hm
  obtain ⟨l0, w0, c0, x0⟩ := open_cks Try.underlying22 Try.underlying26 Try.underlying9 Try.underlying24 Try.underlying5 (by kernel_rfl) (by kernel_rfl) (by kernel_rfl) (by kernel_rfl) rfl rfl (by kernel_rfl) (by kernel_rfl) h0 hsz 0 rfl rfl
  clear hA0 hval0 hsz
  refine (walk a0 len0 cap0 l0 W w0 c0 x0).mono fun e W' ⟨he, bel⟩ => ?_
  subst he
  exact ⟨_, rfl, _, _, _, [], _, [], hW', trodAll_mk1 (shut_bool Try.underlying4 _), (trodAll_cons_mk (Below.trod laidOut (by kernel_rfl) (of_decide_eq_true (by kernel_rfl)) k0 bel lt0) trodAll_mk0), rfl, bel.frame _, fun h => by cases h⟩

theorem proved : Rows.HeadOrdersSaid :=
  OpenClaim.holds_of_wide 3 Try.f3 rfl rfl rfl rfl rfl rfl rfl ⟨rfl, rfl, rfl, rfl, rfl⟩ rfl rfl rfl rfl rfl (by kernel_rfl) Try.func3 (by kernel_rfl)
    (of_decide_eq_true (by kernel_rfl)) (by unfold Func.isWrapper; first | (rw [if_pos (by decide +kernel)]; kernel_rfl) | (rw [if_neg (by decide +kernel)]; exact ⟨rfl, rfl⟩))
    (fun os started H enc _ => lifted os started H enc)
#print axioms proved
end Go.Proofs.Ytbgaaocgdjkkeaa.HeadOrders
