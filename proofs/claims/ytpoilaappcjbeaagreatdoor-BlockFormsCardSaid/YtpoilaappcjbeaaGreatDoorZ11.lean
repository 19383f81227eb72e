/- Appends to rows of the call's own, as one step of a drawn region; a byte as a source. bytes.Equal: its contract. The document's Expand: its contract. burnishnum.Tokens at the same tokens twice. -/
import Derived.Test.YtpoilaappcjbeaaGreatDoorZ2
import Derived.Test.YtpoilaappcjbeaaGreatDoorZ8
import Derived.Test.YtpoilaappcjbeaaGreatDoorZ9
import Derived.Test.YtpoilaappcjbeaaGreatDoorZ10
import Derived.Deep.QuietTactic
import Derived.BigQuiet
import Derived.Test.YtpoilaappcjbeaaGreatDoorProg
import Derived.Deep.RegionHeld3
set_option linter.unusedSimpArgs false
set_option linter.unusedVariables false
section
namespace Go.Proofs.YtpoilaappcjbeaaGreatDoor
open Go.RowKit
set_option linter.unusedSimpArgs false
set_option linter.unusedVariables false

/-- What an append leaves of the elder row. -/
theorem step_keeps {w w' : World} {base gv n cap m : Nat} {e : TypeId} {xs news : List Value} {v' : Value} (h : w.ownsRow base e 1 (.slice (some ⟨gv, 0, none⟩) n cap) n xs) (h' : w'.ownsRow base e 1 v' (n + m) (xs ++ news)) (r : Step w w' (.slice (some ⟨gv, 0, none⟩) n cap) v') (q : Nat) (hq : q < n) :
    w'.cell? ⟨gv, q, none⟩ = w.cell? ⟨gv, q, none⟩ := by
  have hx : xs.length = n := by have := h.1; simpa using this
  have h0 := h.cellAt q (by omega)
  rcases r with ⟨g, k, c, k', e1, e2, _⟩ | ⟨_, hg⟩
  · simp only [Value.slice.injEq, Option.some.injEq, Addr.mk.injEq, and_true] at e1
    obtain ⟨rfl, _, rfl⟩ := e1
    rcases own_nil_or h' with ⟨e3, _⟩ | ⟨g2, c2, e3, _⟩
    · rw [e3] at e2; simp at e2
    rw [e3] at e2 h'
    simp only [Value.slice.injEq, Option.some.injEq, Addr.mk.injEq, and_true] at e2
    obtain ⟨rfl, _, rfl⟩ := e2
    have h1 := h'.cellAt q (by omega)
    rw [h0, h1, List.getElem?_append_left (by omega)]
  · have hlt := (h.lt gv rfl).2
    exact World.cell?_of_block (hg.block gv hlt (by simp))
theorem dn_is (w : World) (n : Nat) : Below w.heap.size w (w.drewN n) := ⟨rfl, rfl, rfl, Nat.le_refl _, fun _ _ => rfl⟩
theorem tyU : RowTy Tryz.prog 22 5 (.int .u8 0) 1 1 := ⟨Tryz.underlying22, by kernel_rfl, rfl, by omega⟩
theorem src_b (w : World) (x : Nat) (hx : x < 256) : SrcRow (w.alloc (.cells #[Value.int .u8 (x : Nat)] 5)) (some ⟨w.heap.size, 0, none⟩) 1 1 (bvs [UInt8.ofNat x]) 1 := by
  have e : (bvs [UInt8.ofNat x]).toArray = #[Value.int .u8 (x : Nat)] := by simp [bvs, Nat.mod_eq_of_lt hx]
  have := (bs_new w w.heap.size rfl [UInt8.ofNat x] 5 (0, 0) 1 rfl (by omega) _ e).src
  exact this
end Go.Proofs.YtpoilaappcjbeaaGreatDoor
end

section
namespace Go.Proofs.YtpoilaappcjbeaaGreatDoor
open Go.RowKit

theorem equal_any (a b : Option Addr) (len cap len' cap' : Nat) (l m : List UInt8) (w : World) (h : Bs w a len cap l) (h' : Bs w b len' cap' m) :
    Calls Tryz.prog 100 #[.slice a len cap, .slice b len' cap'] w fun e w' => e = .returned (.bool (l == m)) ∧ w = w' := by
  have c1 := conv_bs (P := Tryz.prog) h 22 9 5 Tryz.underlying22 Tryz.underlying5 Tryz.underlying9
  have c2 := conv_bs (P := Tryz.prog) h' 22 9 5 Tryz.underlying22 Tryz.underlying5 Tryz.underlying9
  clear h h'
  have HE : Hid (((str l).toList == (str m).toList) = (l == m)) := Lib.hid (by rw [str_list, str_list])
  go_enter Tryz.func100, Tryz.ntmps100
  go_wp2
  go_ret
  exact ⟨by show Ending.returned (.bool ((str l).toList == (str m).toList)) = _; rw [HE.out], rfl⟩
end Go.Proofs.YtpoilaappcjbeaaGreatDoor
end

section
namespace Go.Proofs.YtpoilaappcjbeaaGreatDoor
open Go.RowKit

/-- What the document's Expand answers. -/
def RefExpPost (w : World) (r : Int × List UInt8) (e : Ending) (w' : World) : Prop :=
  Below w.heap.size w w' ∧ ∃ v, e = .returned (.tuple #[v, .int .i64 r.1]) ∧ w'.ownsRow w.heap.size 5 1 v r.2.length (bvs r.2)
/-- The bytes, beside the box of a token. -/
structure RX (w wr : World) (v : Value) (l : List UInt8) (p : Nat) (x y : Int) : Prop where
  own : wr.ownsRow w.heap.size 5 1 v l.length (bvs l)
  bel : Below w.heap.size w wr
  box : wr.heap[p]? = some (.cells #[.int .i64 x, .int .i64 y] 59 (0, 0))
  np : ∀ q, v.ownBlock = some q → q ≠ p
theorem RX.app {w wr w1 w2 : World} {v v2 : Value} {l l2 : List UInt8} {p : Nat} {x y : Int} (h : RX w wr v l p x y) (hb : Below wr.heap.size wr w1) (o2 : w2.ownsRow w.heap.size 5 1 v2 l2.length (bvs l2)) (st : Step w1 w2 v v2) : RX w w2 v2 l2 p x y := by
  have hp := (Array.getElem?_eq_some_iff.1 h.box).1
  have hz := hb.size
  have h1 := hb.block p hp
  refine ⟨o2, st.below (h.bel.trans (hb.mono h.bel.size)) (by have := h.bel.size; omega) (fun g hg => (h.own.lt g hg).1), ?_, fun q hq e => ?_⟩
  · exact ((Ch.step st).block p (by omega) (fun e => h.np p e rfl)).trans (h1.trans h.box)
  · rcases st.block q hq with h' | h'
    · exact h.np q h' e
    · omega
set_option maxRecDepth 100000 in
set_option maxHeartbeats 4000000 in
theorem refExpand_any (a : Option Addr) (len cap : Nat) (ts : List Tok) (m : Int) (w : World) (h : Ts2 w a len cap ts) (hl : len ≤ 100000000) :
    Calls Tryz.prog 31 #[.slice a len cap, .int .i64 m] w (RefExpPost w (Tk.exp m ts)) := by
  have HL := Lib.hid h.hlen
  have H := Lib.hid h
  clear h
  have HNIL := Lib.hid (fun (wr : World) => World.ownsRow_nil wr w.heap.size 5 1)
  by_cases hm : 0 ≤ m ∧ m ≤ 4194304
  rotate_left
  · have HE : Hid (Tk.exp m ts = (7, [])) := Lib.hid (by unfold Tk.exp; rw [if_neg hm])
    by_cases h0 : m < 0
    · have d0 : decide (m < 0) = true := by simpa using h0
      clear hm
      go_enter Tryz.func31, Tryz.ntmps31
      go_wp2
      go_ret2
      exact ⟨Below.refl _ _, _, by rw [HE.out]; rfl, by rw [HE.out]; exact HNIL.out _⟩
    · have d0 : decide (m < 0) = false := by simpa using h0
      have d1 : decide (4194304 < m) = true := by simp; omega
      clear hm
      go_enter Tryz.func31, Tryz.ntmps31
      go_wp2
      go_ret2
      exact ⟨Below.refl _ _, _, by rw [HE.out]; rfl, by rw [HE.out]; exact HNIL.out _⟩
  obtain ⟨n, rfl⟩ := Int.eq_ofNat_of_zero_le hm.1
  have hn : n ≤ 4194304 := by omega
  have d0 : decide ((n : Int) < 0) = false := by simp
  have d1 : decide ((4194304 : Int) < (n : Int)) = false := by simp; omega
  have HE : Hid (Tk.exp (n : Int) ts = Tk.upto n ts len) := Lib.hid (by unfold Tk.exp; rw [if_pos hm, Int.toNat_natCast, HL.out])
  clear hm
  have HS : Hid (Tk.upto n ts 0 = (0, []) ∧ w.ownsRow w.heap.size 5 1 (.slice none 0 0) ([] : List UInt8).length (bvs []) ∧ Below w.heap.size w w) := Lib.hid ⟨rfl, HNIL.out _, Below.refl _ _⟩
  go_enter Tryz.func31, Tryz.ntmps31
  go_wp2
  go_loopw [6, 7] (fun v i wr => ∃ k : Nat, k ≤ len ∧ i = .int .i64 k ∧ ∃ l vv, v = vv ∧ Hid (Tk.upto n ts k = (0, l) ∧ wr.ownsRow w.heap.size 5 1 vv l.length (bvs l) ∧ Below w.heap.size w wr)) (fun _ i _ => len - (intOf i).toNat)
  case atStart => exact ⟨0, by omega, rfl, [], _, rfl, HS⟩
  case round =>
    obtain ⟨k, hk, rfl, l, vv, rfl, HK⟩ := hrel
    have hzr := HK.out.2.2.size
    by_cases hlt : k < len
    · obtain ⟨b, off, ea, _, c0, c1⟩ := (H.out.mono HK.out.2.2).at' k hlt
      subst ea
      have hwf := H.out.wf k hlt
      have HUP := Lib.hid (Tk.upto_next HK.out.1)
      have HER := Lib.hid (fun (x : Int) (y : List UInt8) (h2 : Tk.stp n l (ts.getD k (0, 0)) = (x, y)) (hx : x ≠ 0) => Tk.upto_err HK.out.1 h2 hx (by rw [HL.out]; exact hlt))
      have hlen := Tk.upto_le n ts k l HK.out.1
      obtain ⟨av, cv, rfl, hbs⟩ := own_bs HK.out.2.1 (by omega)
      generalize ts.getD k (0, 0) = t at *
      obtain ⟨x, y⟩ := t
      dsimp only at c0 c1 hwf
      have HRX : Hid (RX w (wr.alloc (.cells #[.int .i64 x, .int .i64 y] 59)) (.slice av l.length cv) l wr.heap.size x y) := Lib.hid ⟨own_below HK.out.2.1 (below_alloc _ _), HK.out.2.2.trans ((below_alloc _ _).mono hzr), heap_alloc_last wr _, fun q hq e => by have := (HK.out.2.1.lt q hq).2; omega⟩
      clear HK hbs
      go_wp2_with fail
      refine (refGood06_any (x, y) _ hwf).mono ?_
      rintro e w2 ⟨rfl, hb2⟩
      have HR2 : Hid (RX w w2 (.slice av l.length cv) l wr.heap.size x y) := Lib.hid ⟨own_below HRX.out.own hb2, HRX.out.bel.trans (hb2.mono HRX.out.bel.size), (hb2.block _ (by simp)).trans HRX.out.box, HRX.out.np⟩
      have g0 : w2.cell? ⟨wr.heap.size, 0, none⟩ = some (.int .i64 x) := by rw [cell_of_row _ _ _ _ _ (0, 0) HR2.out.box]; rfl
      have g1 : w2.cell? ⟨wr.heap.size, 1, none⟩ = some (.int .i64 y) := by rw [cell_of_row _ _ _ _ _ (0, 0) HR2.out.box]; rfl
      clear hb2 HRX c0 c1
      generalize wr.heap.size = p at *
      cases ht : Tk.isTok (x, y)
      · have HX : Hid (Tk.upto n ts len = (6, [])) := Lib.hid (by
          rw [← HL.out]
          refine HER.out 6 [] ?_ (by decide)
          unfold Tk.stp; rw [ht]; rfl)
        clear ht
        go_wp2
        go_ret2
        exact ⟨HR2.out.bel, _, by rw [HE.out, HX.out]; rfl, by rw [HE.out, HX.out]; exact HNIL.out _⟩
      · have htr := Tk.tok_range ht
        dsimp only at htr
        have HST : Hid (Tk.stp n l (x, y) = Tk.add n l (x, y)) := Lib.hid (by unfold Tk.stp; rw [ht]; rfl)
        clear ht
        by_cases hx : x = 0
        · subst hx
          obtain ⟨z, rfl⟩ := Int.eq_ofNat_of_zero_le htr.2.2.1
          have hz : z ≤ 255 := by have := htr.2.2.2.2.1 rfl; omega
          clear htr
          by_cases hbig : n < l.length + 1
          · have HX : Hid (Tk.upto n ts len = (4, [])) := Lib.hid (by
              rw [← HL.out]
              refine HER.out 4 [] ?_ (by decide)
              rw [HST.out]
              unfold Tk.add
              rw [if_neg (fun h => h.1 rfl), if_pos (by show n < l.length + 1; exact hbig)])
            have d3 : decide ((n : Int) < (l.length : Int) + 1) = true := by simp; omega
            go_wp2
            go_ret2
            exact ⟨HR2.out.bel, _, by rw [HE.out, HX.out]; rfl, by rw [HE.out, HX.out]; exact HNIL.out _⟩
          · have d3 : decide ((n : Int) < (l.length : Int) + 1) = false := by simp; omega
            have HX : Hid (Tk.upto n ts (k + 1) = (0, l ++ [UInt8.ofNat z])) := Lib.hid (by
              rw [HUP.out, HST.out]
              unfold Tk.add Tk.put
              rw [if_neg (fun h => h.1 rfl), if_neg (by show ¬ n < l.length + 1; exact hbig), if_pos rfl, Int.toNat_natCast])
            have hzw : IntKind.u8.wrap ((z : Nat) : Int) = (z : Int) := by simp only [IntKind.wrap, IntKind.signed, IntKind.bits]; first | omega | (simp; omega)
            have hzm : (z : Int) % 256 = (z : Int) := by omega
            clear HST HUP
            go_wp2
            go_loopw [6, 10] (fun v i wx => ∃ j : Nat, j ≤ 1 ∧ i = .int .i64 j ∧ ∃ vv, v = vv ∧ Hid (RX w wx vv (if j = 0 then l else l ++ [UInt8.ofNat z]) p 0 (z : Nat))) (fun _ i _ => 1 - (intOf i).toNat)
            case atStart => exact ⟨0, by omega, rfl, _, rfl, HR2⟩
            case round =>
              obtain ⟨j, hj, rfl, vv, rfl, HJ⟩ := hrel
              by_cases hj0 : j = 0
              · subst hj0
                rw [if_pos rfl] at HJ
                have e0 : wr.cell? ⟨p, 0, none⟩ = some (.int .i64 0) := by rw [cell_of_row _ _ _ _ _ (0, 0) HJ.out.box]; rfl
                have e1 : wr.cell? ⟨p, 1, none⟩ = some (.int .i64 (z : Nat)) := by rw [cell_of_row _ _ _ _ _ (0, 0) HJ.out.box]; rfl
                have hal := below_alloc wr (.cells #[.int .u8 (z : Nat)] 5)
                have OWN := Lib.hid (own_below HJ.out.own hal)
                have SRC := Lib.hid (src_b wr z (by omega))
                have hbs : w.heap.size ≤ (wr.alloc (.cells #[.int .u8 (z : Nat)] 5)).heap.size := by have := HJ.out.bel.size; simp; omega
                have HAL := Lib.hid hal
                clear hal
                go_wp2_with (at_builtin; refine wpl_append2 tyU rfl _ _ rfl OWN.out SRC.out rfl rfl (by omega) (by omega) (by omega) hbs ?_)
                intro v3 w3 own3 st3
                rw [← bvs_append] at own3
                have HX3 : Hid (RX w w3 v3 (if 0 + 1 = 0 then l else l ++ [UInt8.ofNat z]) p 0 (z : Nat)) := Lib.hid (HJ.out.app HAL.out (by rw [if_neg (by omega), List.length_append]; exact own3) st3)
                clear own3 st3 OWN SRC HAL HJ
                go_wp2
                go_roundw
                case rel => exact ⟨1, by omega, by go_num, _, rfl, HX3⟩
                case measure => simp [intOf]
              · obtain rfl : j = 1 := by omega
                rw [if_neg (by omega)] at HJ
                have HN : Hid (Tk.upto n ts (k + 1) = (0, l ++ [UInt8.ofNat z]) ∧ wr.ownsRow w.heap.size 5 1 u6 (l ++ [UInt8.ofNat z]).length (bvs (l ++ [UInt8.ofNat z])) ∧ Below w.heap.size w wr) := Lib.hid ⟨HX.out, HJ.out.own, HJ.out.bel⟩
                clear HJ
                go_wp2
                go_roundw
                case rel => exact ⟨k + 1, by omega, by go_num, _, _, rfl, HN⟩
                case measure => simp [intOf]; omega
        · have hk3 : 3 ≤ x ∧ 1 ≤ y := htr.2.2.2.2.2 hx
          have hk0 : x ≤ 258 ∧ y ≤ 32768 := ⟨htr.2.1, htr.2.2.2.1⟩
          clear htr
          obtain ⟨q, rfl⟩ := Int.eq_ofNat_of_zero_le (show 0 ≤ x by omega)
          obtain ⟨d, rfl⟩ := Int.eq_ofNat_of_zero_le (show 0 ≤ y by omega)
          have hxp : decide (0 < q) = true := by simp; omega
          by_cases hfar : l.length < d
          · have HX : Hid (Tk.upto n ts len = (2, [])) := Lib.hid (by
              rw [← HL.out]
              refine HER.out 2 [] ?_ (by decide)
              rw [HST.out]
              unfold Tk.add
              rw [if_pos ⟨hx, by show (l.length : Int) < (d : Int); omega⟩])
            have d3 : decide (l.length < d) = true := by simpa using hfar
            go_wp2
            go_ret2
            exact ⟨HR2.out.bel, _, by rw [HE.out, HX.out]; rfl, by rw [HE.out, HX.out]; exact HNIL.out _⟩
          have d3 : decide (l.length < d) = false := by simpa using hfar
          by_cases hbig : n < l.length + q
          · have HX : Hid (Tk.upto n ts len = (4, [])) := Lib.hid (by
              rw [← HL.out]
              refine HER.out 4 [] ?_ (by decide)
              rw [HST.out]
              unfold Tk.add Tk.size
              rw [if_neg (fun h => by have := h.2; dsimp only at this; omega), if_neg hx, if_pos (by show n < l.length + (q : Int).toNat; omega)])
            have d4 : decide ((n : Int) < (l.length : Int) + (q : Int)) = true := by simp; omega
            go_wp2
            go_ret2
            exact ⟨HR2.out.bel, _, by rw [HE.out, HX.out]; rfl, by rw [HE.out, HX.out]; exact HNIL.out _⟩
          have d4 : decide ((n : Int) < (l.length : Int) + (q : Int)) = false := by simp; omega
          have HX : Hid (Tk.upto n ts (k + 1) = (0, Tk.cp d l q)) := Lib.hid (by
            rw [HUP.out, HST.out]
            unfold Tk.add Tk.put Tk.size
            rw [if_neg (fun h => by have := h.2; dsimp only at this; omega), if_neg hx, if_neg (by show ¬ n < l.length + (q : Int).toNat; omega), if_neg hx, Int.toNat_natCast, Int.toNat_natCast])
          clear HST HUP
          go_wp2
          go_loopw [6, 10] (fun v i wx => ∃ j : Nat, j ≤ q ∧ i = .int .i64 j ∧ ∃ vv, v = vv ∧ Hid (RX w wx vv (Tk.cp d l j) p (q : Nat) (d : Nat))) (fun _ i _ => q - (intOf i).toNat)
          case atStart => exact ⟨0, by omega, rfl, _, rfl, HR2⟩
          case round =>
            obtain ⟨j, hj, rfl, vv, rfl, HJ⟩ := hrel
            have e0 : wr.cell? ⟨p, 0, none⟩ = some (.int .i64 (q : Nat)) := by rw [cell_of_row _ _ _ _ _ (0, 0) HJ.out.box]; rfl
            have e1 : wr.cell? ⟨p, 1, none⟩ = some (.int .i64 (d : Nat)) := by rw [cell_of_row _ _ _ _ _ (0, 0) HJ.out.box]; rfl
            by_cases hlt2 : j < q
            · have hcl := Tk.cp_length d l j
              have how := HJ.out.own
              obtain ⟨nn, hnn⟩ : ∃ nn, nn = l.length + j := ⟨_, rfl⟩
              rw [hcl, ← hnn] at how
              obtain ⟨gv, cap2, rfl⟩ : ∃ gv cap2, u6 = .slice (some ⟨gv, 0, none⟩) nn cap2 := by
                rcases own_nil_or how with ⟨_, h⟩ | ⟨gv, c, e, _⟩
                · omega
                · exact ⟨gv, c, e⟩
              obtain ⟨r, hr⟩ : ∃ r, r = nn - d := ⟨_, rfl⟩
              have hidx : ((nn : Nat) : Int) - ((d : Nat) : Int) = ((r : Nat) : Int) := by omega
              have hrn : r < nn := by omega
              obtain ⟨bb, hbb⟩ : ∃ bb, bb = gb (Tk.cp d l j) (nn - d) := ⟨_, rfl⟩
              have e2 : wr.cell? ⟨gv, r, none⟩ = some (.int .u8 (bb : Nat)) := by
                rw [how.cellAt r (by omega), bvs_get _ _ (by omega), hbb, hr]
              have hb256 : bb < 256 := by rw [hbb]; exact gb_lt _ _
              have HCP : Hid (Tk.cp d l (j + 1) = Tk.cp d l j ++ [UInt8.ofNat bb]) := Lib.hid (by
                rw [Tk.cp, hbb]
                unfold Tk.bk gb
                rw [hcl, ← hnn]; simp)
              have hal := below_alloc wr (.cells #[.int .u8 (bb : Nat)] 5)
              have OWN := Lib.hid (own_below how hal)
              have SRC := Lib.hid (src_b wr bb (by omega))
              have hbs : w.heap.size ≤ (wr.alloc (.cells #[.int .u8 (bb : Nat)] 5)).heap.size := by have := HJ.out.bel.size; simp; omega
              have HAL := Lib.hid hal
              have hgz := (how.lt gv rfl).2
              have h1 : nn ≤ l.length + j := by omega
              have h2 : l.length + j ≤ nn := by omega
              clear hal how hcl hnn hr hbb
              go_wp2_with (at_builtin; refine wpl_append2 tyU rfl _ _ rfl OWN.out SRC.out rfl rfl (by omega) (by omega) (by omega) hbs ?_)
              intro v3 w3 own3 st3
              rw [← bvs_append] at own3
              have HX3 : Hid (RX w w3 v3 (Tk.cp d l (j + 1)) p (q : Nat) (d : Nat)) := Lib.hid (HJ.out.app HAL.out (by
                have e3 : (Tk.cp d l j ++ [UInt8.ofNat bb]).length = nn + 1 := by rw [List.length_append, Tk.cp_length]; simp; omega
                rw [HCP.out, e3]; exact own3) st3)
              clear own3 st3 OWN SRC HAL HJ
              go_wp2
              go_roundw
              case rel => exact ⟨j + 1, by omega, by go_num, _, rfl, HX3⟩
              case measure => simp [intOf]; omega
            · obtain rfl : j = q := by omega
              have HN : Hid (Tk.upto n ts (k + 1) = (0, Tk.cp d l j) ∧ wr.ownsRow w.heap.size 5 1 u6 (Tk.cp d l j).length (bvs (Tk.cp d l j)) ∧ Below w.heap.size w wr) := Lib.hid ⟨HX.out, HJ.out.own, HJ.out.bel⟩
              clear HJ
              go_wp2
              go_roundw
              case rel => exact ⟨k + 1, by omega, by go_num, _, _, rfl, HN⟩
              case measure => simp [intOf]; omega
    · obtain rfl : len = k := by omega
      have HP : Hid (RefExpPost w (Tk.exp (n : Int) ts) (.returned (.tuple #[u6, .int .i64 0])) wr) := Lib.hid ⟨HK.out.2.2, u6, by rw [HE.out, HK.out.1], by rw [HE.out, HK.out.1]; exact HK.out.2.1⟩
      clear HK
      go_wp2
      go_ret2
      exact HP.out
end Go.Proofs.YtpoilaappcjbeaaGreatDoor
end

section
namespace Go.Proofs.YtpoilaappcjbeaaGreatDoor
open Go.RowKit

set_option maxHeartbeats 1000000 in
theorem tokens_any (a b : Option Addr) (len cap cap' : Nat) (l : List Tok) (w : World) (h : Ts2 w a len cap l) (h' : Ts2 w b len cap' l) (hr : len ≤ 140737488355328) :
    Calls Tryz.prog 16 #[.slice a len cap, .slice b len cap'] w fun e w' => e = .returned (.bool true) ∧ ∃ n, w' = w.drewN n := by
  have H := Lib.hid h
  have H' := Lib.hid h'
  clear h h'
  go_enter Tryz.func16, Tryz.ntmps16
  go_wp2
  go_loopw [13] (fun i wr => ∃ k : Nat, k ≤ len ∧ i = .int .i64 k ∧ ∃ n, wr = w.drewN n) (fun i _ => len - (intOf i).toNat)
  case atStart => exact ⟨0, by omega, rfl, 0, rfl⟩
  case round =>
    obtain ⟨k, hk, rfl, dn, rfl⟩ := hrel
    by_cases hlt : k < len
    · obtain ⟨b1, off1, rfl, _, c0, c1⟩ := H.out.at' k hlt
      obtain ⟨b2, off2, rfl, _, d0, d1⟩ := H'.out.at' k hlt
      generalize l.getD k (0, 0) = t at *
      obtain ⟨x, y⟩ := t
      dsimp only at c0 c1 d0 d1
      go_wp2
      go_quiet (fail)
      go_wp2
      go_roundw
      case rel => exact ⟨k + 1, by omega, by go_num, _, rfl⟩
      case measure => simp [intOf]; omega
    · obtain rfl : len = k := by omega
      go_wp2
      go_ret
      exact ⟨rfl, _, rfl⟩
end Go.Proofs.YtpoilaappcjbeaaGreatDoor
end
