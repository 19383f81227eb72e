/- burnishnum.Num: its contract. burnishnum.Is: its contract. Flat prices are in form. The document's Expand: its contract. burnishnum.Same: its contract. burnishlaw09.less: its contract. How {[]byte, int, int, int} is opened, a law's argument. -/
import Derived.Test.YtdojhglpiejfjaaDoorZ18
import Derived.Test.YtdojhglpiejfjaaDoorProg
set_option linter.unusedSimpArgs false
set_option linter.unusedVariables false
section
namespace Go.Proofs.YtdojhglpiejfjaaDoor
open Go.RowKit

theorem num_nil (w : World) : Calls Tryd.prog 35 #[.nilIface] w fun e w' => e = .returned (.int .i64 0) ∧ w = w' := by
  go_enter Tryd.func35, Tryd.ntmps35
  go_wp2
  go_ret
  exact ⟨rfl, rfl⟩
theorem num_err (n : Int) (h0 : (n == 0) = false) (w : World) : Calls Tryd.prog 35 #[.iface 43 (.int .i64 n)] w fun e w' => e = .returned (.int .i64 n) ∧ w = w' := by
  have hta : ∀ (x : Int) (w : World), (Instr.typeAssert (.iface 43 (.int .i64 x)) 27 43 true).run Tryd.prog w = .ok (.tuple #[.int .i64 x, .bool true]) w := fun _ _ => by kernel_rfl
  go_enter Tryd.func35, Tryd.ntmps35
  go_wp2
  go_ret
  exact ⟨rfl, rfl⟩
end Go.Proofs.YtdojhglpiejfjaaDoor
end

section
namespace Go.Proofs.YtdojhglpiejfjaaDoor
open Go.RowKit

theorem is_yes (n : Int) (h0 : (n == 0) = false) (w : World) : Calls Tryd.prog 17 #[.iface 43 (.int .i64 n), .int .i64 n] w fun e w' => e = .returned (.bool true) ∧ w = w' := by
  have H0 := Lib.hid h0
  clear h0
  go_enter Tryd.func17, Tryd.ntmps17
  go_wp2_with fail
  refine (num_err n H0.out _).mono ?_
  rintro e w' ⟨rfl, rfl⟩
  go_wp2
  go_ret
  exact ⟨by simp, rfl⟩
end Go.Proofs.YtdojhglpiejfjaaDoor
end

section
namespace Go.Proofs.YtdojhglpiejfjaaDoor
open Go.RowKit

theorem fl1_at (x : Int) (n i : Nat) (h : i < n) : (Pa.fl1 x n).length = n ∧ (Pa.fl1 x n).getD i 0 = x := by simp [Pa.fl1, List.getD, List.getElem?_replicate, h]
theorem fl2_at (x : Int) (n i : Nat) (h : i < n) : (Pa.fl2 x n).length = n ∧ (Pa.fl2 x n).getD i 0 = x + (i : Int) % 7 := by simp [Pa.fl2, List.getD, h]
theorem fl3_at (x : Int) (n i : Nat) (h : i < n) : (Pa.fl3 x n).length = n ∧ (Pa.fl3 x n).getD i 0 = x * (i : Int) := by simp [Pa.fl3, List.getD, h]
theorem flat_ok (x1 x2 x3 : Nat) (h1 : x1 < 2000) (h2 : x2 < 2000) (h3 : x3 < 2000) : Pa.good (Pa.fl1 x1 256) (Pa.fl2 x2 259) (Pa.fl3 x3 30) = true := by
  have e1 : (Pa.fl1 (x1 : Int) 256).length = 256 := (fl1_at _ 256 0 (by omega)).1
  have e2 : (Pa.fl2 (x2 : Int) 259).length = 259 := (fl2_at _ 259 0 (by omega)).1
  have e3 : (Pa.fl3 (x3 : Int) 30).length = 30 := (fl3_at _ 30 0 (by omega)).1
  have r1 : Pa.rng (Pa.fl1 (x1 : Int) 256) = true := Pa.rng_take (fun i hi => by
    rw [e1] at hi
    have : (Pa.fl1 (x1 : Int) 256).getD i 0 = x1 := (fl1_at _ 256 i hi).2
    omega)
  have r2 : Pa.rng (Pa.fl2 (x2 : Int) 259) = true := Pa.rng_take (fun i hi => by
    rw [e2] at hi
    have : (Pa.fl2 (x2 : Int) 259).getD i 0 = (x2 : Int) + (i : Int) % 7 := (fl2_at _ 259 i hi).2
    omega)
  have r3 : Pa.rng (Pa.fl3 (x3 : Int) 30) = true := Pa.rng_take (fun i hi => by
    rw [e3] at hi
    have : (Pa.fl3 (x3 : Int) 30).getD i 0 = (x3 : Int) * (i : Int) := (fl3_at _ 30 i hi).2
    rw [this]
    have a : x3 * i ≤ 2000 * 30 := Nat.mul_le_mul (by omega) (by omega)
    rw [← Int.natCast_mul]
    omega)
  unfold Pa.good
  rw [r1, r2, r3, e1, e2, e3]
  rfl
theorem mod2000 (t : Int) : ∃ m : Nat, m < 2000 ∧ wrap64 ((IntKind.u64.wrap t).tmod 2000) = (m : Int) := by
  have h0 : 0 ≤ IntKind.u64.wrap t := by
    show 0 ≤ t % (2 ^ 64 : Int)
    exact Int.emod_nonneg _ (by decide)
  have h1 := Int.tmod_nonneg 2000 h0
  have h2 := Int.tmod_lt_of_pos (IntKind.u64.wrap t) (show (0 : Int) < 2000 by decide)
  generalize (IntKind.u64.wrap t).tmod 2000 = r at *
  obtain ⟨m, rfl⟩ := Int.eq_ofNat_of_zero_le h1
  exact ⟨m, by omega, IntWalk.wrap64_in _ ⟨by omega, by omega⟩⟩
end Go.Proofs.YtdojhglpiejfjaaDoor
end

section
namespace Go.Proofs.YtdojhglpiejfjaaDoor
open Go.RowKit

/-- What the document's Expand answers. -/
def RefExpPost (w : World) (r : Int × List UInt8) (e : Ending) (w' : World) : Prop :=
  Below w.heap.size w w' ∧ ∃ v, e = .returned (.tuple #[v, .int .i64 r.1]) ∧ w'.ownsRow w.heap.size 5 1 v r.2.length (bvs r.2)
/-- The bytes, beside the box of a token. -/
structure RX (w wr : World) (v : Value) (l : List UInt8) (p : Nat) (x y : Int) : Prop where
  own : wr.ownsRow w.heap.size 5 1 v l.length (bvs l)
  bel : Below w.heap.size w wr
  box : wr.heap[p]? = some (.cells #[.int .i64 x, .int .i64 y] 46 (0, 0))
  np : ∀ q, v.ownBlock = some q → q ≠ p
theorem RX.app {w wr w1 w2 : World} {v v2 : Value} {l l2 : List UInt8} {p : Nat} {x y : Int} (h : RX w wr v l p x y) (hb : Below wr.heap.size wr w1) (o2 : w2.ownsRow w.heap.size 5 1 v2 l2.length (bvs l2)) (st : Step w1 w2 v v2) : RX w w2 v2 l2 p x y := by
  have hp := (Array.getElem?_eq_some_iff.1 h.box).1
  have hz := hb.size
  have h1 := hb.block p hp
  refine ⟨o2, st.below (h.bel.trans (hb.mono h.bel.size)) (by have := h.bel.size; omega) (fun g hg => (h.own.lt g hg).1), ?_, fun q hq e => ?_⟩
  · exact ((Ch.step st).block p (by omega) (fun e => h.np p e rfl)).trans (h1.trans h.box)
  · rcases st.block q hq with h' | h'
    · exact h.np q h' e
    · omega
set_option maxRecDepth 100000 in
set_option maxHeartbeats 4000000 in
theorem refExpand_any (a : Option Addr) (len cap : Nat) (ts : List Tok) (m : Int) (w : World) (h : Ts2 w a len cap ts) (hl : len ≤ 100000000) :
    Calls Tryd.prog 38 #[.slice a len cap, .int .i64 m] w (RefExpPost w (Tk.exp m ts)) := by
  have HL := Lib.hid h.hlen
  have H := Lib.hid h
  clear h
  have HNIL := Lib.hid (fun (wr : World) => World.ownsRow_nil wr w.heap.size 5 1)
  by_cases hm : 0 ≤ m ∧ m ≤ 4194304
  rotate_left
  · have HE : Hid (Tk.exp m ts = (7, [])) := Lib.hid (by unfold Tk.exp; rw [if_neg hm])
    by_cases h0 : m < 0
    · have d0 : decide (m < 0) = true := by simpa using h0
      clear hm
      go_enter Tryd.func38, Tryd.ntmps38
      go_wp2
      go_ret2
      exact ⟨Below.refl _ _, _, by rw [HE.out]; rfl, by rw [HE.out]; exact HNIL.out _⟩
    · have d0 : decide (m < 0) = false := by simpa using h0
      have d1 : decide (4194304 < m) = true := by simp; omega
      clear hm
      go_enter Tryd.func38, Tryd.ntmps38
      go_wp2
      go_ret2
      exact ⟨Below.refl _ _, _, by rw [HE.out]; rfl, by rw [HE.out]; exact HNIL.out _⟩
  obtain ⟨n, rfl⟩ := Int.eq_ofNat_of_zero_le hm.1
  have hn : n ≤ 4194304 := by omega
  have d0 : decide ((n : Int) < 0) = false := by simp
  have d1 : decide ((4194304 : Int) < (n : Int)) = false := by simp; omega
  have HE : Hid (Tk.exp (n : Int) ts = Tk.upto n ts len) := Lib.hid (by unfold Tk.exp; rw [if_pos hm, Int.toNat_natCast, HL.out])
  clear hm
  have HS : Hid (Tk.upto n ts 0 = (0, []) ∧ w.ownsRow w.heap.size 5 1 (.slice none 0 0) ([] : List UInt8).length (bvs []) ∧ Below w.heap.size w w) := Lib.hid ⟨rfl, HNIL.out _, Below.refl _ _⟩
  go_enter Tryd.func38, Tryd.ntmps38
  go_wp2
  go_loopw [6, 7] (fun v i wr => ∃ k : Nat, k ≤ len ∧ i = .int .i64 k ∧ ∃ l vv, v = vv ∧ Hid (Tk.upto n ts k = (0, l) ∧ wr.ownsRow w.heap.size 5 1 vv l.length (bvs l) ∧ Below w.heap.size w wr)) (fun _ i _ => len - (intOf i).toNat)
  case atStart => exact ⟨0, by omega, rfl, [], _, rfl, HS⟩
  case round =>
    obtain ⟨k, hk, rfl, l, vv, rfl, HK⟩ := hrel
    have hzr := HK.out.2.2.size
    by_cases hlt : k < len
    · obtain ⟨b, off, ea, _, c0, c1⟩ := (H.out.mono HK.out.2.2).at' k hlt
      subst ea
      have hwf := H.out.wf k hlt
      have HUP := Lib.hid (Tk.upto_next HK.out.1)
      have HER := Lib.hid (fun (x : Int) (y : List UInt8) (h2 : Tk.stp n l (ts.getD k (0, 0)) = (x, y)) (hx : x ≠ 0) => Tk.upto_err HK.out.1 h2 hx (by rw [HL.out]; exact hlt))
      have hlen := Tk.upto_le n ts k l HK.out.1
      obtain ⟨av, cv, rfl, hbs⟩ := own_bs HK.out.2.1 (by omega)
      generalize ts.getD k (0, 0) = t at *
      obtain ⟨x, y⟩ := t
      dsimp only at c0 c1 hwf
      have HRX : Hid (RX w (wr.alloc (.cells #[.int .i64 x, .int .i64 y] 46)) (.slice av l.length cv) l wr.heap.size x y) := Lib.hid ⟨own_below HK.out.2.1 (below_alloc _ _), HK.out.2.2.trans ((below_alloc _ _).mono hzr), heap_alloc_last wr _, fun q hq e => by have := (HK.out.2.1.lt q hq).2; omega⟩
      clear HK hbs
      go_wp2_with fail
      refine (refGood06_any (x, y) _ hwf).mono ?_
      rintro e w2 ⟨rfl, hb2⟩
      have HR2 : Hid (RX w w2 (.slice av l.length cv) l wr.heap.size x y) := Lib.hid ⟨own_below HRX.out.own hb2, HRX.out.bel.trans (hb2.mono HRX.out.bel.size), (hb2.block _ (by simp)).trans HRX.out.box, HRX.out.np⟩
      have g0 : w2.cell? ⟨wr.heap.size, 0, none⟩ = some (.int .i64 x) := by rw [cell_of_row _ _ _ _ _ (0, 0) HR2.out.box]; rfl
      have g1 : w2.cell? ⟨wr.heap.size, 1, none⟩ = some (.int .i64 y) := by rw [cell_of_row _ _ _ _ _ (0, 0) HR2.out.box]; rfl
      clear hb2 HRX c0 c1
      generalize wr.heap.size = p at *
      cases ht : Tk.isTok (x, y)
      · have HX : Hid (Tk.upto n ts len = (6, [])) := Lib.hid (by
          rw [← HL.out]
          refine HER.out 6 [] ?_ (by decide)
          unfold Tk.stp; rw [ht]; rfl)
        clear ht
        go_wp2
        go_ret2
        exact ⟨HR2.out.bel, _, by rw [HE.out, HX.out]; rfl, by rw [HE.out, HX.out]; exact HNIL.out _⟩
      · have htr := Tk.tok_range ht
        dsimp only at htr
        have HST : Hid (Tk.stp n l (x, y) = Tk.add n l (x, y)) := Lib.hid (by unfold Tk.stp; rw [ht]; rfl)
        clear ht
        by_cases hx : x = 0
        · subst hx
          obtain ⟨z, rfl⟩ := Int.eq_ofNat_of_zero_le htr.2.2.1
          have hz : z ≤ 255 := by have := htr.2.2.2.2.1 rfl; omega
          clear htr
          by_cases hbig : n < l.length + 1
          · have HX : Hid (Tk.upto n ts len = (4, [])) := Lib.hid (by
              rw [← HL.out]
              refine HER.out 4 [] ?_ (by decide)
              rw [HST.out]
              unfold Tk.add
              rw [if_neg (fun h => h.1 rfl), if_pos (by show n < l.length + 1; exact hbig)])
            have d3 : decide ((n : Int) < (l.length : Int) + 1) = true := by simp; omega
            go_wp2
            go_ret2
            exact ⟨HR2.out.bel, _, by rw [HE.out, HX.out]; rfl, by rw [HE.out, HX.out]; exact HNIL.out _⟩
          · have d3 : decide ((n : Int) < (l.length : Int) + 1) = false := by simp; omega
            have HX : Hid (Tk.upto n ts (k + 1) = (0, l ++ [UInt8.ofNat z])) := Lib.hid (by
              rw [HUP.out, HST.out]
              unfold Tk.add Tk.put
              rw [if_neg (fun h => h.1 rfl), if_neg (by show ¬ n < l.length + 1; exact hbig), if_pos rfl, Int.toNat_natCast])
            have hzw : IntKind.u8.wrap ((z : Nat) : Int) = (z : Int) := by simp only [IntKind.wrap, IntKind.signed, IntKind.bits]; first | omega | (simp; omega)
            have hzm : (z : Int) % 256 = (z : Int) := by omega
            clear HST HUP
            go_wp2
            go_loopw [6, 10] (fun v i wx => ∃ j : Nat, j ≤ 1 ∧ i = .int .i64 j ∧ ∃ vv, v = vv ∧ Hid (RX w wx vv (if j = 0 then l else l ++ [UInt8.ofNat z]) p 0 (z : Nat))) (fun _ i _ => 1 - (intOf i).toNat)
            case atStart => exact ⟨0, by omega, rfl, _, rfl, HR2⟩
            case round =>
              obtain ⟨j, hj, rfl, vv, rfl, HJ⟩ := hrel
              by_cases hj0 : j = 0
              · subst hj0
                rw [if_pos rfl] at HJ
                have e0 : wr.cell? ⟨p, 0, none⟩ = some (.int .i64 0) := by rw [cell_of_row _ _ _ _ _ (0, 0) HJ.out.box]; rfl
                have e1 : wr.cell? ⟨p, 1, none⟩ = some (.int .i64 (z : Nat)) := by rw [cell_of_row _ _ _ _ _ (0, 0) HJ.out.box]; rfl
                have hal := below_alloc wr (.cells #[.int .u8 (z : Nat)] 5)
                have OWN := Lib.hid (own_below HJ.out.own hal)
                have SRC := Lib.hid (src_b wr z (by omega))
                have hbs : w.heap.size ≤ (wr.alloc (.cells #[.int .u8 (z : Nat)] 5)).heap.size := by have := HJ.out.bel.size; simp; omega
                have HAL := Lib.hid hal
                clear hal
                go_wp2_with (at_builtin; refine wpl_append2 tyU rfl _ _ rfl OWN.out SRC.out rfl rfl (by omega) (by omega) (by omega) hbs ?_)
                intro v3 w3 own3 st3
                rw [← bvs_append] at own3
                have HX3 : Hid (RX w w3 v3 (if 0 + 1 = 0 then l else l ++ [UInt8.ofNat z]) p 0 (z : Nat)) := Lib.hid (HJ.out.app HAL.out (by rw [if_neg (by omega), List.length_append]; exact own3) st3)
                clear own3 st3 OWN SRC HAL HJ
                go_wp2
                go_roundw
                case rel => exact ⟨1, by omega, by go_num, _, rfl, HX3⟩
                case measure => simp [intOf]
              · obtain rfl : j = 1 := by omega
                rw [if_neg (by omega)] at HJ
                have HN : Hid (Tk.upto n ts (k + 1) = (0, l ++ [UInt8.ofNat z]) ∧ wr.ownsRow w.heap.size 5 1 u6 (l ++ [UInt8.ofNat z]).length (bvs (l ++ [UInt8.ofNat z])) ∧ Below w.heap.size w wr) := Lib.hid ⟨HX.out, HJ.out.own, HJ.out.bel⟩
                clear HJ
                go_wp2
                go_roundw
                case rel => exact ⟨k + 1, by omega, by go_num, _, _, rfl, HN⟩
                case measure => simp [intOf]; omega
        · have hk3 : 3 ≤ x ∧ 1 ≤ y := htr.2.2.2.2.2 hx
          have hk0 : x ≤ 258 ∧ y ≤ 32768 := ⟨htr.2.1, htr.2.2.2.1⟩
          clear htr
          obtain ⟨q, rfl⟩ := Int.eq_ofNat_of_zero_le (show 0 ≤ x by omega)
          obtain ⟨d, rfl⟩ := Int.eq_ofNat_of_zero_le (show 0 ≤ y by omega)
          have hxp : decide (0 < q) = true := by simp; omega
          by_cases hfar : l.length < d
          · have HX : Hid (Tk.upto n ts len = (2, [])) := Lib.hid (by
              rw [← HL.out]
              refine HER.out 2 [] ?_ (by decide)
              rw [HST.out]
              unfold Tk.add
              rw [if_pos ⟨hx, by show (l.length : Int) < (d : Int); omega⟩])
            have d3 : decide (l.length < d) = true := by simpa using hfar
            go_wp2
            go_ret2
            exact ⟨HR2.out.bel, _, by rw [HE.out, HX.out]; rfl, by rw [HE.out, HX.out]; exact HNIL.out _⟩
          have d3 : decide (l.length < d) = false := by simpa using hfar
          by_cases hbig : n < l.length + q
          · have HX : Hid (Tk.upto n ts len = (4, [])) := Lib.hid (by
              rw [← HL.out]
              refine HER.out 4 [] ?_ (by decide)
              rw [HST.out]
              unfold Tk.add Tk.size
              rw [if_neg (fun h => by have := h.2; dsimp only at this; omega), if_neg hx, if_pos (by show n < l.length + (q : Int).toNat; omega)])
            have d4 : decide ((n : Int) < (l.length : Int) + (q : Int)) = true := by simp; omega
            go_wp2
            go_ret2
            exact ⟨HR2.out.bel, _, by rw [HE.out, HX.out]; rfl, by rw [HE.out, HX.out]; exact HNIL.out _⟩
          have d4 : decide ((n : Int) < (l.length : Int) + (q : Int)) = false := by simp; omega
          have HX : Hid (Tk.upto n ts (k + 1) = (0, Tk.cp d l q)) := Lib.hid (by
            rw [HUP.out, HST.out]
            unfold Tk.add Tk.put Tk.size
            rw [if_neg (fun h => by have := h.2; dsimp only at this; omega), if_neg hx, if_neg (by show ¬ n < l.length + (q : Int).toNat; omega), if_neg hx, Int.toNat_natCast, Int.toNat_natCast])
          clear HST HUP
          go_wp2
          go_loopw [6, 10] (fun v i wx => ∃ j : Nat, j ≤ q ∧ i = .int .i64 j ∧ ∃ vv, v = vv ∧ Hid (RX w wx vv (Tk.cp d l j) p (q : Nat) (d : Nat))) (fun _ i _ => q - (intOf i).toNat)
          case atStart => exact ⟨0, by omega, rfl, _, rfl, HR2⟩
          case round =>
            obtain ⟨j, hj, rfl, vv, rfl, HJ⟩ := hrel
            have e0 : wr.cell? ⟨p, 0, none⟩ = some (.int .i64 (q : Nat)) := by rw [cell_of_row _ _ _ _ _ (0, 0) HJ.out.box]; rfl
            have e1 : wr.cell? ⟨p, 1, none⟩ = some (.int .i64 (d : Nat)) := by rw [cell_of_row _ _ _ _ _ (0, 0) HJ.out.box]; rfl
            by_cases hlt2 : j < q
            · have hcl := Tk.cp_length d l j
              have how := HJ.out.own
              obtain ⟨nn, hnn⟩ : ∃ nn, nn = l.length + j := ⟨_, rfl⟩
              rw [hcl, ← hnn] at how
              obtain ⟨gv, cap2, rfl⟩ : ∃ gv cap2, u6 = .slice (some ⟨gv, 0, none⟩) nn cap2 := by
                rcases own_nil_or how with ⟨_, h⟩ | ⟨gv, c, e, _⟩
                · omega
                · exact ⟨gv, c, e⟩
              obtain ⟨r, hr⟩ : ∃ r, r = nn - d := ⟨_, rfl⟩
              have hidx : ((nn : Nat) : Int) - ((d : Nat) : Int) = ((r : Nat) : Int) := by omega
              have hrn : r < nn := by omega
              obtain ⟨bb, hbb⟩ : ∃ bb, bb = gb (Tk.cp d l j) (nn - d) := ⟨_, rfl⟩
              have e2 : wr.cell? ⟨gv, r, none⟩ = some (.int .u8 (bb : Nat)) := by
                rw [how.cellAt r (by omega), bvs_get _ _ (by omega), hbb, hr]
              have hb256 : bb < 256 := by rw [hbb]; exact gb_lt _ _
              have HCP : Hid (Tk.cp d l (j + 1) = Tk.cp d l j ++ [UInt8.ofNat bb]) := Lib.hid (by
                rw [Tk.cp, hbb]
                unfold Tk.bk gb
                rw [hcl, ← hnn]; simp)
              have hal := below_alloc wr (.cells #[.int .u8 (bb : Nat)] 5)
              have OWN := Lib.hid (own_below how hal)
              have SRC := Lib.hid (src_b wr bb (by omega))
              have hbs : w.heap.size ≤ (wr.alloc (.cells #[.int .u8 (bb : Nat)] 5)).heap.size := by have := HJ.out.bel.size; simp; omega
              have HAL := Lib.hid hal
              have hgz := (how.lt gv rfl).2
              have h1 : nn ≤ l.length + j := by omega
              have h2 : l.length + j ≤ nn := by omega
              clear hal how hcl hnn hr hbb
              go_wp2_with (at_builtin; refine wpl_append2 tyU rfl _ _ rfl OWN.out SRC.out rfl rfl (by omega) (by omega) (by omega) hbs ?_)
              intro v3 w3 own3 st3
              rw [← bvs_append] at own3
              have HX3 : Hid (RX w w3 v3 (Tk.cp d l (j + 1)) p (q : Nat) (d : Nat)) := Lib.hid (HJ.out.app HAL.out (by
                have e3 : (Tk.cp d l j ++ [UInt8.ofNat bb]).length = nn + 1 := by rw [List.length_append, Tk.cp_length]; simp; omega
                rw [HCP.out, e3]; exact own3) st3)
              clear own3 st3 OWN SRC HAL HJ
              go_wp2
              go_roundw
              case rel => exact ⟨j + 1, by omega, by go_num, _, rfl, HX3⟩
              case measure => simp [intOf]; omega
            · obtain rfl : j = q := by omega
              have HN : Hid (Tk.upto n ts (k + 1) = (0, Tk.cp d l j) ∧ wr.ownsRow w.heap.size 5 1 u6 (Tk.cp d l j).length (bvs (Tk.cp d l j)) ∧ Below w.heap.size w wr) := Lib.hid ⟨HX.out, HJ.out.own, HJ.out.bel⟩
              clear HJ
              go_wp2
              go_roundw
              case rel => exact ⟨k + 1, by omega, by go_num, _, _, rfl, HN⟩
              case measure => simp [intOf]; omega
    · obtain rfl : len = k := by omega
      have HP : Hid (RefExpPost w (Tk.exp (n : Int) ts) (.returned (.tuple #[u6, .int .i64 0])) wr) := Lib.hid ⟨HK.out.2.2, u6, by rw [HE.out, HK.out.1], by rw [HE.out, HK.out.1]; exact HK.out.2.1⟩
      clear HK
      go_wp2
      go_ret2
      exact HP.out
end Go.Proofs.YtdojhglpiejfjaaDoor
end

section
namespace Go.Proofs.YtdojhglpiejfjaaDoor
open Go.RowKit

theorem same_any (a b : Option Addr) (len cap len' cap' : Nat) (l m : List UInt8) (w : World) (h : Bs w a len cap l) (h' : Bs w b len' cap' m) :
    Calls Tryd.prog 39 #[.slice a len cap, .slice b len' cap'] w fun e w' => e = .returned (.bool (l == m)) ∧ w = w' := by
  have c1 := conv_bs (P := Tryd.prog) h 22 9 5 Tryd.underlying22 Tryd.underlying5 Tryd.underlying9
  have c2 := conv_bs (P := Tryd.prog) h' 22 9 5 Tryd.underlying22 Tryd.underlying5 Tryd.underlying9
  clear h h'
  have HE : Hid (((str l).toList == (str m).toList) = (l == m)) := Lib.hid (by rw [str_list, str_list])
  go_enter Tryd.func39, Tryd.ntmps39
  go_wp2
  go_ret
  exact ⟨by show Ending.returned (.bool ((str l).toList == (str m).toList)) = _; rw [HE.out], rfl⟩

end Go.Proofs.YtdojhglpiejfjaaDoor
end

section
namespace Go.Proofs.YtdojhglpiejfjaaDoor
open Go.RowKit

theorem own_toks0 (w : World) (base : Nat) (hb : base ≤ w.heap.size) : (w.alloc (.cells #[] 46)).ownsRow base 46 2 (.slice (some ⟨w.heap.size, 0, none⟩) 0 0) 0 (tks []) :=
  ⟨by simp [tks], .inr ⟨w.heap.size, 0, #[], rfl, hb, heap_alloc_last w _, by omega, by unfold maxLen; omega, rfl, rfl⟩⟩
theorem toks_own' {w : World} {B N K : Nat} {F : Nat → Tok} {v : Value} (h : w.ownsRow B 46 2 v K (tks (Pz.toks F K))) (hF : ∀ p, p < N → Tk.isTok (F p) = true) (hj : ∀ j, j < K → Pz.pos F j < N) : ∃ a cap, v = .slice a K cap ∧ Ts2 w a K cap (Pz.toks F K) :=
  own_ts2 h (by have := tks_wf (toks_tok hF hj); rwa [Pz.toks_length] at this)
theorem price_good {w : World} {a1 a2 a3 : Option Addr} {n1 c1 n2 c2 n3 c3 : Nat} {l1 l2 l3 : List Int} (a : Option Addr) (len cap : Nat) (ts : List Tok) (ht : Ts2 w a len cap ts) (hlen : len ≤ 1100000) (h : Pa.Pr w a1 n1 c1 l1 a2 n2 c2 l2 a3 n3 c3 l3) (hg : Pa.good l1 l2 l3 = true) (htk : ∀ i, i < len → Tk.isTok (ts.getD i (0, 0)) = true) :
    Calls Tryd.prog 37 #[.slice a len cap, .agg #[.slice a1 n1 c1, .slice a2 n2 c2, .slice a3 n3 c3]] w fun e w' => e = .returned (.tuple #[.int .i64 (Pa.sm l1 l2 l3 ts len), .nilIface]) ∧ Below w.heap.size w w' :=
  (price_any a len cap ts ht hlen h).mono (by
    rintro e w' ⟨h1 | h1, h2⟩
    · exact ⟨h1.2.2, h2⟩
    · exact absurd ⟨hg, htk⟩ h1.1)
theorem toks_at {N : Nat} {F : Nat → Tok} {K : Nat} (hF : ∀ p, p < N → Tk.isTok (F p) = true) (hj : ∀ j, j < K → Pz.pos F j < N) : ∀ i, i < K → Tk.isTok ((Pz.toks F K).getD i (0, 0)) = true := fun i hi => by
  rw [Pz.toks_getD _ hi]; exact hF _ (hj i hi)
theorem Pz.Cho.same {b : Nat → Nat} {N : Nat} {R R' : Nat → List (Nat × Nat)} (h : Pz.Txt b N R) (h' : Pz.Txt b N R') {p : Nat} (hp : p < N) {t : Tok} (c : Pz.Cho b R p t) : Pz.Cho b R' p t := by
  rcases c with rfl | ⟨n, h3, hn, rfl⟩
  · exact .inl rfl
  · have m := Lz.far_some (h.recs p hp) h3 hn
    have m' := Lz.mat_top (h'.recs p hp) h3 m.1
    have m2 := Lz.far_some (h'.recs p hp) h3 m'.1
    have e : Lz.far (R' p) n = Lz.far (R p) n := by
      rcases Nat.lt_or_ge (Lz.far (R' p) n) (Lz.far (R p) n) with hl | hl
      · exact absurd m2.1 (m.2 _ hl)
      · omega
    exact .inr ⟨n, h3, m'.1, by rw [e]⟩
theorem lits_next (b : Nat → Nat) (k : Nat) : Pz.toks (Pz.lits b) (k + 1) = Pz.toks (Pz.lits b) k ++ [(0, (b k : Int))] := by
  rw [Pz.toks_next, Pz.lits_pos]; rfl
set_option maxRecDepth 100000 in
set_option maxHeartbeats 8000000 in
theorem less_any (a : Option Addr) (len cap : Nat) (l : List UInt8) (i1 i2 i3 : Int) (w : World) (h : Bs w a len cap l) (hdb : Db w) (hdl : 0 < w.heap.size) :
    Calls Tryd.prog 21 #[.slice a len cap, .int .i64 i1, .int .i64 i2, .int .i64 i3] w fun e w' => e = .returned (.bool true) ∧ Below w.heap.size w w' := by
  have HDB : Hid (∀ w', Below w.heap.size w w' → Db w' ∧ 0 < w'.heap.size) := Lib.hid (fun w' hb => ⟨hdb.kept hb hdl, Nat.lt_of_lt_of_le hdl hb.size⟩)
  have HAL := Lib.hid (alive09_any w hdb hdl)
  have hle := h.hle
  have H := Lib.hid h
  obtain ⟨x1, hx1, e1⟩ := mod2000 i1
  obtain ⟨x2, hx2, e2⟩ := mod2000 i2
  obtain ⟨x3, hx3, e3⟩ := mod2000 i3
  have HGO := Lib.hid (flat_ok x1 x2 x3 hx1 hx2 hx3)
  clear h hdb hdl
  go_enter Tryd.func21, Tryd.ntmps21
  go_wp2_with fail
  refine HAL.out.mono ?_
  rintro e w1 ⟨rfl, hb1⟩
  have HB1 := Lib.hid hb1
  clear hb1 HAL
  by_cases hbig : 2000 < len
  · have d1 : decide ((2000 : Int) < (len : Int)) = true := by simp; omega
    clear e1 e2 e3
    go_wp2
    go_ret
    exact ⟨rfl, HB1.out⟩
  have d1 : decide ((2000 : Int) < (len : Int)) = false := by simp; omega
  have hlen : len ≤ 2000 := by omega
  clear hbig
  have HFL := Lib.hid (flat_any x1 x2 x3 w1 (by omega) (by omega) (by omega))
  go_wp2_with fail
  rw [e1, e2, e3]
  clear e1 e2 e3
  refine HFL.out.mono ?_
  rintro e w2 ⟨v1, v2, v3, rfl, o1, o2, o3, hb2⟩
  obtain ⟨a1, c1, a2, c2, a3, c3, rfl, rfl, rfl, hpr⟩ := Pa.pr_of_own o1 o2 o3 HGO.out (by omega) (by omega) (by omega)
  have HPR := Lib.hid hpr
  have HB2 := Lib.hid (below_then HB1.out hb2)
  have HGP := Lib.hid (Pa.good_parts HGO.out)
  clear o1 o2 o3 hpr hb2 HFL hx1 hx2 hx3 HB1
  generalize Pa.fl1 (x1 : Int) 256 = l1 at *
  generalize Pa.fl2 (x2 : Int) 259 = l2 at *
  generalize Pa.fl3 (x3 : Int) 30 = l3 at *
  go_wp2_with fail
  refine (prices_any HPR.out (by omega) (by omega) (by omega)).mono ?_
  rintro e w3 ⟨y1, y2, y3, rfl, hcp, hb3⟩
  have hb4 := below_alloc w3 (.cells #[.slice (some ⟨y1, 0, none⟩) 256 257, .slice (some ⟨y2, 0, none⟩) 259 260, .slice (some ⟨y3, 0, none⟩) 30 31] 38)
  have hr4 : (w3.alloc (.cells #[.slice (some ⟨y1, 0, none⟩) 256 257, .slice (some ⟨y2, 0, none⟩) 259 260, .slice (some ⟨y3, 0, none⟩) 30 31] 38)).heap[w3.heap.size]? = some (.cells #[.slice (some ⟨y1, 0, none⟩) 256 257, .slice (some ⟨y2, 0, none⟩) 259 260, .slice (some ⟨y3, 0, none⟩) 30 31] 38 (0, 0)) := heap_alloc_last w3 _
  have HPQ4 := Lib.hid ((Pa.pr_of_cp hcp (Pa.wf_of_rng HGP.out.1) (Pa.wf_of_rng HGP.out.2.1) (Pa.wf_of_rng HGP.out.2.2.1) (by omega) (by omega) (by omega)).mono hb4)
  have HB4 := Lib.hid (below_then HB2.out (below_then hb3 hb4))
  have HR4 := Lib.hid hr4
  have q0 : (w3.alloc (.cells #[.slice (some ⟨y1, 0, none⟩) 256 257, .slice (some ⟨y2, 0, none⟩) 259 260, .slice (some ⟨y3, 0, none⟩) 30 31] 38)).cell? ⟨w3.heap.size, 0, none⟩ = some (.slice (some ⟨y1, 0, none⟩) 256 257) := by rw [cell_of_row _ _ _ _ _ (0, 0) hr4]; rfl
  have q1 : (w3.alloc (.cells #[.slice (some ⟨y1, 0, none⟩) 256 257, .slice (some ⟨y2, 0, none⟩) 259 260, .slice (some ⟨y3, 0, none⟩) 30 31] 38)).cell? ⟨w3.heap.size, 1, none⟩ = some (.slice (some ⟨y2, 0, none⟩) 259 260) := by rw [cell_of_row _ _ _ _ _ (0, 0) hr4]; rfl
  have q2 : (w3.alloc (.cells #[.slice (some ⟨y1, 0, none⟩) 256 257, .slice (some ⟨y2, 0, none⟩) 259 260, .slice (some ⟨y3, 0, none⟩) 30 31] 38)).cell? ⟨w3.heap.size, 2, none⟩ = some (.slice (some ⟨y3, 0, none⟩) 30 31) := by rw [cell_of_row _ _ _ _ _ (0, 0) hr4]; rfl
  clear hb4 hr4 hcp hb3
  go_wp2_with fail
  revert HPQ4 HB4 HR4
  generalize w3.alloc (.cells #[.slice (some ⟨y1, 0, none⟩) 256 257, .slice (some ⟨y2, 0, none⟩) 259 260, .slice (some ⟨y3, 0, none⟩) 30 31] 38) = w4
  generalize w3.heap.size = qb
  intro HPQ4 HB4 HR4
  clear q0 q1 q2
  have hdb4 := HDB.out w4 HB4.out
  refine (cheapest_any a len cap l (H.out.mono HB4.out) (by omega) HPQ4.out hdb4.1 hdb4.2).mono ?_
  rintro e w5 (⟨hn, _⟩ | ⟨_, v5, K5, Rs5, C5, T5, rfl, hrc5, hdn5, hown5, hK5, hJ5, hb5⟩)
  · exact absurd hn (by rw [HGO.out]; simp)
  have htx5 := Pz.txt_of hrc5
  obtain ⟨a5, c5, rfl, hts5⟩ := toks_own' hown5 (fun p hp => Pz.Cho.tok htx5 hp (hdn5.cho p (Nat.zero_le _) hp)) hJ5
  have HC5 : Hid (Pz.Txt (gb l) len (fun p => ra Rs5 (p : Int)) ∧ Pz.Dn (Pa.pr l1 l2 l3) (gb l) len (fun p => ra Rs5 (p : Int)) 0 C5 T5 ∧ Pz.pos (fun p => T5.getD p (0, 0)) K5 = len ∧ (∀ j, j < K5 → Pz.pos (fun p => T5.getD p (0, 0)) j < len)) := Lib.hid ⟨htx5, hdn5, hK5, hJ5⟩
  have hk5 : K5 ≤ len := by have := Pz.pos_ge (fun p => T5.getD p (0, 0)) K5; omega
  have HTS5 := Lib.hid hts5
  have HB5 := Lib.hid (below_then HB4.out hb5)
  have HR5 := Lib.hid ((hb5.block qb (Array.getElem?_eq_some_iff.1 HR4.out).1).trans HR4.out)
  have HPQ5 := Lib.hid (HPQ4.out.mono hb5)
  have hdb5 := HDB.out w5 HB5.out
  have HGR := Lib.hid (greedy_any a len cap l w5 (H.out.mono HB5.out) (by omega) hdb5.1 hdb5.2)
  clear hdb4 hdb5 hrc5 hdn5 hown5 hK5 hJ5 hb5 htx5 hts5 HR4 HPQ4 HB4
  go_wp2_with fail
  refine HGR.out.mono ?_
  rintro e w6 ⟨v6, K6, Rs6, rfl, hrc6, hown6, hK6, hJ6, hb6⟩
  have htx6 := Pz.txt_of hrc6
  have hF6 : ∀ p, p < len → Pz.Cho (gb l) (fun p => ra Rs6 (p : Int)) p (Pz.gr (gb l) (fun p => ra Rs6 (p : Int)) p) := fun p hp => (Pz.gr_cho htx6 hp).1
  obtain ⟨a6, c6, rfl, hts6⟩ := toks_own' hown6 (fun p hp => Pz.Cho.tok htx6 hp (hF6 p hp)) hJ6
  obtain ⟨F6, hF6e⟩ : ∃ F6, Pz.gr (gb l) (fun p => ra Rs6 (p : Int)) = F6 := ⟨_, rfl⟩
  rw [hF6e] at hF6 hts6 hK6 hJ6
  have HC6 : Hid (Pz.Txt (gb l) len (fun p => ra Rs6 (p : Int)) ∧ (∀ p, p < len → Pz.Cho (gb l) (fun p => ra Rs6 (p : Int)) p (F6 p)) ∧ Pz.pos F6 K6 = len ∧ (∀ j, j < K6 → Pz.pos F6 j < len)) := Lib.hid ⟨htx6, hF6, hK6, hJ6⟩
  have hk6 : K6 ≤ len := by have := Pz.pos_ge F6 K6; omega
  have HTS6 := Lib.hid hts6
  have HTS5' := Lib.hid (HTS5.out.mono hb6)
  have HB6 := Lib.hid (below_then HB5.out hb6)
  have HR6 := Lib.hid ((hb6.block qb (Array.getElem?_eq_some_iff.1 HR5.out).1).trans HR5.out)
  have HPQ6 := Lib.hid (HPQ5.out.mono hb6)
  clear hrc6 hown6 hK6 hJ6 hb6 htx6 hF6 hF6e hts6 HTS5 HR5 HPQ5 HB5 HGR
  have HO7 := Lib.hid (own_toks0 w6 w6.heap.size (Nat.le_refl _))
  have HB7 := Lib.hid (below_alloc w6 (.cells #[] 46))
  go_wp2
  revert HO7 HB7
  generalize w6.alloc (.cells #[] 46) = w7
  intro HO7 HB7
  go_loopw [14, 60] (fun ov iv wr => ∃ k : Nat, k ≤ len ∧ iv = .int .i64 ((k : Nat) : Int) ∧ Hid (wr.ownsRow w6.heap.size 46 2 ov k (tks (Pz.toks (Pz.lits (gb l)) k))) ∧ Hid (Below w6.heap.size w6 wr)) (fun _ iv _ => len - (intOf iv).toNat)
  case atStart => exact ⟨0, by omega, rfl, HO7, HB7⟩
  case round =>
    clear HO7 HB7
    obtain ⟨k, hk, rfl, HO, HBR⟩ := hrel
    obtain ⟨va, vc, rfl⟩ : ∃ va vc, u14 = .slice va k vc := by
      rcases own_nil_or HO.out with ⟨h1, h2⟩ | ⟨g', cap', h1, _⟩
      · exact ⟨none, 0, by rw [h1, h2]⟩
      · exact ⟨_, _, h1⟩
    by_cases hlt : k < len
    · obtain ⟨b, off, rfl, hbl, t0⟩ := ((H.out.mono HB6.out).mono HBR.out).at' k hlt
      have HNX := Lib.hid (lits_next (gb l) k)
      have hz := gb_lt l k
      have hzr := HBR.out.size
      have HOW := HO.out
      have hsrc : SrcRow (wr.alloc (.cells #[.int .i64 0, .int .i64 ((gb l k : Nat) : Int)] 46)) (some ⟨wr.heap.size, 0, none⟩) 1 1 (tks [(0, ((gb l k : Nat) : Int))]) 2 := src_tok wr (((0 : Int), ((gb l k : Nat) : Int)))
      clear hbl HO
      generalize gb l k = z at *
      go_wp2_with (at_builtin; refine wpl_append tyT rfl _ _ rfl (own_below HOW (below_alloc wr (.cells #[.int .i64 0, .int .i64 (z : Nat)] 46))) hsrc rfl rfl (by omega) (by omega) (by simp; omega) ?_)
      intro v' w' own' hg' _
      obtain ⟨va', vc', rfl⟩ : ∃ va' vc', v' = .slice va' (k + 1) vc' := by
        rcases own_nil_or own' with ⟨h1, h2⟩ | ⟨g', cap', h1, _⟩
        · omega
        · exact ⟨_, _, h1⟩
      have HB5 : Hid (Below w6.heap.size w6 w') := Lib.hid ((below_then HBR.out (below_alloc wr _)).grown hg' (by simp; omega) (fun r e => (HOW.lt r e).1))
      rw [← tks_append, ← HNX.out] at own'
      have HO := Lib.hid own'
      clear own' hg' hsrc HOW t0
      go_wp2
      go_roundw
      case rel => exact ⟨k + 1, by omega, by go_num, HO, HB5⟩
      case measure => simp [intOf]; omega
    · obtain rfl : k = len := by omega
      have hr8 := (HBR.out.block qb (Array.getElem?_eq_some_iff.1 HR6.out).1).trans HR6.out
      have HR8 := Lib.hid hr8
      have HB8 := Lib.hid (below_then HB6.out HBR.out)
      have HPQ8 := Lib.hid (HPQ6.out.mono HBR.out)
      have HTS5 := Lib.hid (HTS5'.out.mono HBR.out)
      have HTS6x := Lib.hid (HTS6.out.mono HBR.out)
      obtain ⟨a8, c8, hv8, hts8⟩ := toks_own' (N := k) HO.out (fun p hp => by
        have := Pz.Cho.tok HC5.out.1 hp (Pz.Cho.lit (gb l) (fun p => ra Rs5 (p : Int)) p)
        exact this) (fun j hj => by rw [Pz.lits_pos]; exact hj)
      simp only [Value.slice.injEq, true_and] at hv8
      obtain ⟨rfl, rfl⟩ := hv8
      have HTS8 := Lib.hid hts8
      have HL5 : Hid (∀ i, i < K5 → Tk.isTok ((Pz.toks (fun p => T5.getD p (0, 0)) K5).getD i (0, 0)) = true) := Lib.hid (toks_at (fun p hp => Pz.Cho.tok HC5.out.1 hp (HC5.out.2.1.cho p (Nat.zero_le _) hp)) HC5.out.2.2.2)
      have HL6 : Hid (∀ i, i < K6 → Tk.isTok ((Pz.toks F6 K6).getD i (0, 0)) = true) := Lib.hid (toks_at (fun p hp => Pz.Cho.tok HC6.out.1 hp (HC6.out.2.1 p hp)) HC6.out.2.2.2)
      have HL8 : Hid (∀ i, i < k → Tk.isTok ((Pz.toks (Pz.lits (gb l)) k).getD i (0, 0)) = true) := Lib.hid (toks_at (N := k) (fun p hp => Pz.Cho.tok HC5.out.1 hp (Pz.Cho.lit (gb l) (fun p => ra Rs5 (p : Int)) p)) (fun j hj => by rw [Pz.lits_pos]; exact hj))
      have hfin : C5.getD k 0 = 0 := HC5.out.2.1.fin
      have HS5 : Hid (Pa.sm l1 l2 l3 (Pz.toks (fun p => T5.getD p (0, 0)) K5) K5 = C5.getD 0 0) := Lib.hid (by
        have := Pz.cost_eq (l1 := l1) (l2 := l2) (l3 := l3) (C := fun p => C5.getD p 0) (F := fun p => T5.getD p (0, 0)) (N := k) (fun p hp => HC5.out.2.1.eq p (Nat.zero_le _) hp) K5 HC5.out.2.2.2
        rw [HC5.out.2.2.1] at this
        simp only [hfin] at this
        omega)
      have HS6 : Hid (C5.getD 0 0 ≤ Pa.sm l1 l2 l3 (Pz.toks F6 K6) K6) := Lib.hid (by
        have := Pz.cost_le HC5.out.1 HC5.out.2.1.least (F := F6) (fun p hp => Pz.Cho.same HC6.out.1 HC5.out.1 hp (HC6.out.2.1 p hp)) K6 HC6.out.2.2.2
        rw [HC6.out.2.2.1] at this
        simp only [hfin] at this
        omega)
      have HS8 : Hid (C5.getD 0 0 ≤ Pa.sm l1 l2 l3 (Pz.toks (Pz.lits (gb l)) k) k) := Lib.hid (by
        have := Pz.cost_le HC5.out.1 HC5.out.2.1.least (F := Pz.lits (gb l)) (fun p hp => Pz.Cho.lit _ _ p) k (fun j hj => by rw [Pz.lits_pos]; exact hj)
        rw [Pz.lits_pos] at this
        simp only [hfin] at this
        omega)
      have HX5 : Hid (Tk.exp 4000 (Pz.toks (fun p => T5.getD p (0, 0)) K5) = (0, l)) := Lib.hid (by
        have hl : l.length = k := H.out.hlen
        have htx := HC5.out.1
        have hd := HC5.out.2.1
        have hk := HC5.out.2.2.1
        have hj := HC5.out.2.2.2
        rw [← hl] at htx hd hk hj
        exact Pz.exp_all htx (fun p hp => hd.cho p (Nat.zero_le _) hp) (most := 4000) (by omega) (by omega) hk hj)
      have HX6 : Hid (Tk.exp 4000 (Pz.toks F6 K6) = (0, l)) := Lib.hid (by
        have hl : l.length = k := H.out.hlen
        have htx := HC6.out.1
        have hd := HC6.out.2.1
        have hk := HC6.out.2.2.1
        have hj := HC6.out.2.2.2
        rw [← hl] at htx hd hk hj
        exact Pz.exp_all htx hd (most := 4000) (by omega) (by omega) hk hj)
      have HLN := H.out.hlen
      generalize Pz.toks (fun p => T5.getD p (0, 0)) K5 = ts5 at *
      generalize Pz.toks F6 K6 = ts6 at *
      generalize Pz.toks (Pz.lits (gb l)) k = ts8 at *
      clear HO HC5 HC6 hts8 hfin HTS5' HTS6 HBR HR6 HPQ6 HB6
      have q0 : wr.cell? ⟨qb, 0, none⟩ = some (.slice (some ⟨y1, 0, none⟩) 256 257) := by rw [cell_of_row _ _ _ _ _ (0, 0) hr8]; rfl
      have q1 : wr.cell? ⟨qb, 1, none⟩ = some (.slice (some ⟨y2, 0, none⟩) 259 260) := by rw [cell_of_row _ _ _ _ _ (0, 0) hr8]; rfl
      have q2 : wr.cell? ⟨qb, 2, none⟩ = some (.slice (some ⟨y3, 0, none⟩) 30 31) := by rw [cell_of_row _ _ _ _ _ (0, 0) hr8]; rfl
      have HP5 := Lib.hid (price_good a5 K5 c5 ts5 HTS5.out (by omega) HPQ8.out HGO.out HL5.out)
      clear hr8
      go_wp2_with fail
      refine HP5.out.mono ?_
      rintro e wa ⟨rfl, hba⟩
      have HRa := Lib.hid ((hba.block qb (Array.getElem?_eq_some_iff.1 HR8.out).1).trans HR8.out)
      have HBa := Lib.hid (below_then HB8.out hba)
      have HPQa := Lib.hid (HPQ8.out.mono hba)
      have HT5a := Lib.hid (HTS5.out.mono hba)
      have HT6a := Lib.hid (HTS6x.out.mono hba)
      have HT8a := Lib.hid (HTS8.out.mono hba)
      clear hba q0 q1 q2 HP5 HR8 HB8 HPQ8 HTS5 HTS6x HTS8
      have q0 : wa.cell? ⟨qb, 0, none⟩ = some (.slice (some ⟨y1, 0, none⟩) 256 257) := by rw [cell_of_row _ _ _ _ _ (0, 0) HRa.out]; rfl
      have q1 : wa.cell? ⟨qb, 1, none⟩ = some (.slice (some ⟨y2, 0, none⟩) 259 260) := by rw [cell_of_row _ _ _ _ _ (0, 0) HRa.out]; rfl
      have q2 : wa.cell? ⟨qb, 2, none⟩ = some (.slice (some ⟨y3, 0, none⟩) 30 31) := by rw [cell_of_row _ _ _ _ _ (0, 0) HRa.out]; rfl
      have HP6 := Lib.hid (price_good a6 K6 c6 ts6 HT6a.out (by omega) HPQa.out HGO.out HL6.out)
      go_wp2_with fail
      refine HP6.out.mono ?_
      rintro e wb ⟨rfl, hbb⟩
      have HRb := Lib.hid ((hbb.block qb (Array.getElem?_eq_some_iff.1 HRa.out).1).trans HRa.out)
      have HBb := Lib.hid (below_then HBa.out hbb)
      have HPQb := Lib.hid (HPQa.out.mono hbb)
      have HT5b := Lib.hid (HT5a.out.mono hbb)
      have HT6b := Lib.hid (HT6a.out.mono hbb)
      have HT8b := Lib.hid (HT8a.out.mono hbb)
      clear hbb q0 q1 q2 HP6 HRa HBa HPQa HT5a HT6a HT8a
      have q0 : wb.cell? ⟨qb, 0, none⟩ = some (.slice (some ⟨y1, 0, none⟩) 256 257) := by rw [cell_of_row _ _ _ _ _ (0, 0) HRb.out]; rfl
      have q1 : wb.cell? ⟨qb, 1, none⟩ = some (.slice (some ⟨y2, 0, none⟩) 259 260) := by rw [cell_of_row _ _ _ _ _ (0, 0) HRb.out]; rfl
      have q2 : wb.cell? ⟨qb, 2, none⟩ = some (.slice (some ⟨y3, 0, none⟩) 30 31) := by rw [cell_of_row _ _ _ _ _ (0, 0) HRb.out]; rfl
      have HP8 := Lib.hid (price_good va k vc ts8 HT8b.out (by omega) HPQb.out HGO.out HL8.out)
      go_wp2_with fail
      refine HP8.out.mono ?_
      rintro e wc ⟨rfl, hbc⟩
      have HBc := Lib.hid (below_then HBb.out hbc)
      have HT6c := Lib.hid (HT6b.out.mono hbc)
      have HE5 := Lib.hid (refExpand_any a5 K5 c5 ts5 4000 wc (HT5b.out.mono hbc) (by omega))
      clear hbc q0 q1 q2 HP8 HRb HBb HPQb HT5b HT6b HT8b
      go_wp2_with fail
      refine HE5.out.mono ?_
      rintro e wd ⟨hbd, vd, rfl, hownd⟩
      rw [HX5.out] at hownd ⊢
      simp only at hownd ⊢
      obtain ⟨ad, cd, rfl, hbsd⟩ := own_bs hownd (by rw [HLN]; omega)
      rw [HLN] at hbsd ⊢
      have HBSD := Lib.hid hbsd
      have HBd := Lib.hid (below_then HBc.out hbd)
      have HE6 := Lib.hid (refExpand_any a6 K6 c6 ts6 4000 wd (HT6c.out.mono hbd) (by omega))
      clear hbd hownd hbsd HE5 HT6c HBc
      go_wp2_with fail
      refine HE6.out.mono ?_
      rintro e we ⟨hbe, ve, rfl, howne⟩
      rw [HX6.out] at howne ⊢
      simp only at howne ⊢
      obtain ⟨ae, ce, rfl, hbse⟩ := own_bs howne (by rw [HLN]; omega)
      rw [HLN] at hbse ⊢
      have HBSE := Lib.hid hbse
      have HBSD2 := Lib.hid (HBSD.out.mono hbe)
      have HBe := Lib.hid (below_then HBd.out hbe)
      have hs5 := HS5.out
      have hs6 := HS6.out
      have hs8 := HS8.out
      clear hbe howne hbse HE6 HBSD HBd HX5 HX6 HLN HL5 HL6 HL8 HS5 HS6 HS8
      generalize C5.getD 0 0 = c0 at *
      generalize Pa.sm l1 l2 l3 ts5 K5 = s5 at *
      generalize Pa.sm l1 l2 l3 ts6 K6 = s6 at *
      generalize Pa.sm l1 l2 l3 ts8 k = s8 at *
      have d5 : decide (s5 ≤ s6) = true := by simp; omega
      have d6 : decide (s5 ≤ s8) = true := by simp; omega
      clear hs5 hs6 hs8
      have HSA := Lib.hid (same_any ad a k cd k cap l l we HBSD2.out (H.out.mono HBe.out))
      have HSB := Lib.hid (same_any ae a k ce k cap l l we HBSE.out (H.out.mono HBe.out))
      have hll : (l == l) = true := by simp
      rw [hll] at HSA HSB
      clear hll
      go_wp2_with fail
      refine HSA.out.mono ?_
      rintro e w' ⟨rfl, rfl⟩
      go_wp2_with fail
      refine HSB.out.mono ?_
      rintro e w' ⟨rfl, rfl⟩
      go_wp2
      go_ret
      exact ⟨rfl, HBe.out⟩
end Go.Proofs.YtdojhglpiejfjaaDoor
end

section
namespace Go.Proofs.YtdojhglpiejfjaaDoor
open Go.ChangeShapes Go.WideShapes Go.ChangeAt Go.RowKit

section
variable {H : Type} {enc : TypeId × Value → H} {P : Program} {W : World}
theorem open_flat {t e0 : TypeId} {f0 f1 f2 f3 : Field} (ht : P.underlying t = some (.struct #[f0, f1, f2, f3])) (hc : P.cellsOf t = 4)
    (u0 : P.underlying f0.type = some (.slice e0)) (x0 : P.underlying e0 = some (.int .u8)) (k0 : P.cellsOf e0 = 1) (b0 : P.bytesOf e0 = 1)
    (u1 : P.underlying f1.type = some (.int .i64)) (u2 : P.underlying f2.type = some (.int .i64)) (u3 : P.underlying f3.type = some (.int .i64))
    (c0 : P.cellsOf f0.type = 1) (c1 : P.cellsOf f1.type = 1) (c2 : P.cellsOf f2.type = 1) (c3 : P.cellsOf f3.type = 1) (o0 : f0.offset = 0) (o1 : f1.offset = 1) (o2 : f2.offset = 2) (o3 : f3.offset = 3)
    {v : Value} {r : Reach} {base : Nat} (hv : Value.okWide P W r base t v) {d : DataW H} {p : List MemPlace} (h : DataW.Trod enc P W 0 (fun _ => true) true t v d p)
    {ts : List TypeId} {ds : List (DataW H)} (hsz : (DataW.weightsEach P ts ds).all (· ≤ reachBytes) = true) (j : Nat) (htj : ts[j]? = some t) (hdj : ds[j]? = some d) :
    ∃ a len cap l n1 n2 n3, v = .agg #[.slice a len cap, .int .i64 n1, .int .i64 n2, .int .i64 n3] ∧ Bs W a len cap l ∧ cap ≤ 140737488351232 ∧ (Lit.int .i64 n1).wf = true ∧ (Lit.int .i64 n2).wf = true ∧ (Lit.int .i64 n3).wf = true := by
  obtain ⟨cs, rfl, hcs⟩ := okWide_struct ht hv
  rw [hc] at hcs
  obtain ⟨v0, v1, v2, v3, rfl⟩ := Go.Joins.array4 hcs
  obtain ⟨fuel, hf⟩ := h
  obtain ⟨y0, y1, y2, y3, n, hx, _, t0, t1, t2, t3⟩ := Go.Joins.trod_struct4 ht hf
  rw [o0, c0] at t0
  rw [o1, c1] at t1
  rw [o2, c2] at t2
  rw [o3, c3] at t3
  simp only [Value.cells, List.drop_zero, List.drop_succ_cons, List.take_succ_cons, List.take_zero] at t0 t1 t2 t3
  simp only [Prod.mk.injEq] at hx
  obtain ⟨rfl, _⟩ := hx
  have hp := sized_parts hsz htj hdj ht
  obtain ⟨a, len, cap, rfl⟩ := slice_cell u0 t0
  obtain ⟨m1, e1, _, w1⟩ := DataW.trod_int u1 t1
  obtain ⟨m2, e2, _, w2⟩ := DataW.trod_int u2 t2
  obtain ⟨m3, e3, _, w3⟩ := DataW.trod_int u3 t3
  simp only [List.cons.injEq, and_true] at e1 e2 e3
  subst e1 e2 e3
  obtain ⟨l, hl, hr⟩ := open_bs u0 x0 k0 b0 (d := y0.1) (p := y0.2) ⟨n, t0⟩ hp 0 rfl rfl
  exact ⟨a, len, cap, l, m1, m2, m3, rfl, hl, hr, w1, w2, w3⟩
end
end Go.Proofs.YtdojhglpiejfjaaDoor
end
