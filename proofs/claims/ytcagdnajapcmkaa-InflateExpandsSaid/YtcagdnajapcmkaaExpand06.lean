/- inflate.Expand: its contract. -/
import Derived.Test.YtcagdnajapcmkaaOutAdd
import Derived.Test.YtcagdnajapcmkaaIsTok06
namespace Go.Proofs.Ytcagdnajapcmkaa
open Go.RowKit

/-- What Expand answers. -/
def ExpPost (w : World) (r : Int × List UInt8) (e : Ending) (w' : World) : Prop :=
  Below w.heap.size w w' ∧ ((r.1 ≠ 0 ∧ e = .returned (.tuple #[.slice none 0 0, .iface 37 (.int .i64 r.1)])) ∨
    (r.1 = 0 ∧ ∃ v, e = .returned (.tuple #[v, .nilIface]) ∧ w'.ownsRow w.heap.size 5 1 v r.2.length (bvs r.2)))
/-- A new output. -/
theorem ou_new (w : World) (m : Nat) (ls : Bool) : Ou (w.alloc (.cells #[.slice none 0 0, .int .i64 (m : Nat), .bool ls, .slice none 0 0] 78)) w.heap.size w.heap.size 0 78 #[.slice none 0 0, .int .i64 (m : Nat), .bool ls, .slice none 0 0] (.slice none 0 0) [] m ls (.slice none 0 0) [] :=
  ⟨heap_alloc_last w _, rfl, rfl, rfl, rfl, World.ownsRow_nil _ _ _ _, World.ownsRow_nil _ _ _ _, fun k hk => by simp [Value.ownBlock] at hk, fun k hk => by simp [Value.ownBlock] at hk, fun k hk => by simp [Value.ownBlock] at hk⟩
set_option maxRecDepth 100000 in
set_option maxHeartbeats 4000000 in
theorem expand_any (a : Option Addr) (len cap : Nat) (ts : List Tok) (m : Int) (w : World) (h : Ts2 w a len cap ts) (hl : len ≤ 100000000) :
    Calls Try.prog 16 #[.slice a len cap, .int .i64 m] w (ExpPost w (Tk.exp m ts)) := by
  have HL := Lib.hid h.hlen
  have H := Lib.hid h
  clear h
  by_cases hm : 0 ≤ m ∧ m ≤ 4194304
  rotate_left
  · have E := Lib.hid (show decide (0 ≤ m ∧ m ≤ 4194304) = false from decide_eq_false hm)
    have HE : Hid (Tk.exp m ts = (7, [])) := Lib.hid (by unfold Tk.exp; rw [if_neg hm])
    clear hm
    go_enter Try.func16, Try.ntmps16
    go_wp2_with fail
    refine (isMost_any m w).mono ?_
    rintro e w' ⟨rfl, rfl⟩
    rw [E.out]
    go_wp2
    go_ret2
    exact ⟨Below.refl _ _, .inl (by rw [HE.out]; exact ⟨by decide, rfl⟩)⟩
  have E := Lib.hid (show decide (0 ≤ m ∧ m ≤ 4194304) = true from decide_eq_true hm)
  obtain ⟨n, rfl⟩ := Int.eq_ofNat_of_zero_le hm.1
  have hn : n ≤ 4194304 := by omega
  have HE : Hid (Tk.exp (n : Int) ts = Tk.upto n ts len) := Lib.hid (by unfold Tk.exp; rw [if_pos hm, Int.toNat_natCast, HL.out])
  clear hm
  have HO := Lib.hid (ou_new w n false)
  have HB := Lib.hid (below_alloc w (.cells #[.slice none 0 0, .int .i64 (n : Nat), .bool false, .slice none 0 0] 78))
  have HZ : (w.alloc (.cells #[.slice none 0 0, .int .i64 (n : Nat), .bool false, .slice none 0 0] 78)).heap.size = w.heap.size + 1 := by simp
  go_enter Try.func16, Try.ntmps16
  go_wp2_with fail
  refine (isMost_any (n : Int) w).mono ?_
  rintro e w' ⟨rfl, rfl⟩
  rw [E.out]
  go_wp2
  revert HO HB HZ
  generalize World.alloc _ _ = w1
  intro HO HB HZ
  generalize hcs : (#[.slice none 0 0, .int .i64 (n : Nat), .bool false, .slice none 0 0] : Array Value) = cs at *
  clear hcs
  have HS := Lib.hid (And.intro (show Tk.upto n ts 0 = (0, []) from rfl) (Og.refl HO.out))
  clear HO
  go_loopw [18] (fun i wr => ∃ k : Nat, k ≤ len ∧ i = .int .i64 k ∧ ∃ l, Hid (Tk.upto n ts k = (0, l) ∧ Og w1 wr w.heap.size w.heap.size 0 78 cs (.slice none 0 0) (.slice none 0 0) l n false [])) (fun i _ => len - (intOf i).toNat)
  case atStart => exact ⟨0, by omega, rfl, [], HS⟩
  case round =>
    obtain ⟨k, hk, rfl, l, HK⟩ := hrel
    have HBR : Hid (Below w.heap.size w wr) := Lib.hid (by
      obtain ⟨_, _, _, _, _, _, _, _, h6⟩ := HK.out.2
      refine HB.out.trans (h6.below (by omega) (fun j hj => ?_))
      rcases hj with rfl | hj | hj
      · omega
      · simp [Value.ownBlock] at hj
      · simp [Value.ownBlock] at hj)
    have hzr := HBR.out.size
    by_cases hlt : k < len
    · obtain ⟨b, off, ea, _, c0, c1⟩ := (H.out.mono HBR.out).at' k hlt
      subst ea
      have hwf := H.out.wf k hlt
      have HUP := Lib.hid (Tk.upto_next HK.out.1)
      have HER := Lib.hid (fun (x : Int) (y : List UInt8) (h2 : Tk.stp n l (ts.getD k (0, 0)) = (x, y)) (hx : x ≠ 0) => Tk.upto_err HK.out.1 h2 hx (by rw [HL.out]; exact hlt))
      have hlen := Tk.upto_le n ts k l HK.out.1
      generalize ts.getD k (0, 0) = t at *
      obtain ⟨x, y⟩ := t
      dsimp only at c0 c1 hwf
      have HGA := Lib.hid (HK.out.2.below (below_alloc wr (.cells #[.int .i64 x, .int .i64 y] 49)))
      have hrow : (wr.alloc (.cells #[.int .i64 x, .int .i64 y] 49)).heap[wr.heap.size]? = some (.cells #[.int .i64 x, .int .i64 y] 49 (0, 0)) := heap_alloc_last wr _
      have HR := Lib.hid hrow
      have HBA := Lib.hid (below_then HBR.out (below_alloc wr (.cells #[.int .i64 x, .int .i64 y] 49)))
      clear HK hrow
      go_wp2_with fail
      refine (isToken_any (x, y) _ hwf).mono ?_
      rintro e w2 ⟨rfl, hb2⟩
      have HG2 := Lib.hid (HGA.out.below hb2)
      have hrow2 := (hb2.block wr.heap.size (by simp)).trans HR.out
      have HB2 := Lib.hid (below_then HBA.out hb2)
      have g0 : w2.cell? ⟨wr.heap.size, 0, none⟩ = some (.int .i64 x) := by rw [cell_of_row _ _ _ _ _ (0, 0) hrow2]; rfl
      have g1 : w2.cell? ⟨wr.heap.size, 1, none⟩ = some (.int .i64 y) := by rw [cell_of_row _ _ _ _ _ (0, 0) hrow2]; rfl
      clear hb2 hrow2 HGA HR HBA
      cases ht : Tk.isTok (x, y)
      · have HX : Hid (Tk.upto n ts len = (6, [])) := Lib.hid (by
          rw [← HL.out]
          refine HER.out 6 [] ?_ (by decide)
          unfold Tk.stp; rw [ht]; rfl)
        clear ht
        go_wp2
        go_ret2
        exact ⟨HB2.out, .inl (by rw [HE.out, HX.out]; exact ⟨by decide, rfl⟩)⟩
      · obtain ⟨cs', v', vl', h1, h2, h3, h4, h5, h6⟩ := HG2.out
        have HT := Lib.hid ht
        have HADD := Lib.hid (add_any (x, y) h1 ht hn hlen (by simp) (by have := HB2.out.size; omega))
        have H2 := Lib.hid h2
        have H3 := Lib.hid h3
        have H4 := Lib.hid h4
        have H5 := Lib.hid h5
        have H6 := Lib.hid h6
        clear ht h1 h2 h3 h4 h5 h6
        go_wp2_with fail
        refine HADD.out.mono ?_
        rintro e w3 (⟨q, hq, hq0, rfl, hb3⟩ | ⟨hq, rfl, hg3⟩)
        · have HX : Hid (Tk.upto n ts len = (q, [])) := Lib.hid (by
            rw [← HL.out]
            refine HER.out q [] ?_ (by simpa using hq0)
            unfold Tk.stp; rw [HT.out]; exact hq)
          have HB3 := Lib.hid (below_then HB2.out hb3)
          have hqn : q ≠ 0 := by simpa using hq0
          clear hq hb3 HADD
          go_wp2
          go_ret2
          exact ⟨HB3.out, .inl (by rw [HE.out, HX.out]; exact ⟨hqn, rfl⟩)⟩
        · have HX : Hid (Tk.upto n ts (k + 1) = (0, Tk.put l (x, y)) ∧ Og w1 w3 w.heap.size w.heap.size 0 78 cs (.slice none 0 0) (.slice none 0 0) (Tk.put l (x, y)) n false []) := Lib.hid ⟨by
            rw [HUP.out]; unfold Tk.stp; rw [HT.out]; exact hq, Og.trans H2.out H3.out H4.out H5.out H6.out hg3⟩
          clear hq hg3 HADD
          go_wp2
          go_roundw
          case rel => exact ⟨k + 1, by omega, by go_num, _, HX⟩
          case measure => simp [intOf]; omega
    · obtain rfl : len = k := by omega
      obtain ⟨hu, cs', v', vl', h1, h2, h3, h4, h5, h6⟩ := HK.out
      obtain ⟨d0, _, _, _⟩ := h1.cells
      have HP : Hid (ExpPost w (Tk.exp (n : Int) ts) (.returned (.tuple #[v', .nilIface])) wr) := Lib.hid ⟨HBR.out, .inr (by rw [HE.out, hu]; exact ⟨rfl, v', rfl, h1.own⟩)⟩
      clear hu h1 h2 h3 h4 h5 h6 HK
      go_wp2
      go_ret2
      exact HP.out
end Go.Proofs.Ytcagdnajapcmkaa
