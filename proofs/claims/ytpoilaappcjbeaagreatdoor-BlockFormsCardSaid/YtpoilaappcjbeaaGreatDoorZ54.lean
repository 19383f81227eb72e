/- burnishlaw10.alive: its contract. block's pen: stored: its contract. block.Write of kind 0: its contract. -/
import Derived.Test.YtpoilaappcjbeaaGreatDoorZ4
import Derived.Test.YtpoilaappcjbeaaGreatDoorZ23
import Derived.Test.YtpoilaappcjbeaaGreatDoorZ25
import Derived.Test.YtpoilaappcjbeaaGreatDoorZ50
import Derived.Test.YtpoilaappcjbeaaGreatDoorZ51
import Derived.Test.YtpoilaappcjbeaaGreatDoorZ53
import Derived.Lib.SlBytesConst
import Derived.Test.YtpoilaappcjbeaaGreatDoorZ48
import Derived.Test.YtpoilaappcjbeaaGreatDoorRows
import Derived.LaidLaws
import Derived.MakeChecks
import Derived.Stop.Joined
set_option linter.unusedSimpArgs false
set_option linter.unusedVariables false
section
namespace Go.Proofs.YtpoilaappcjbeaaGreatDoor
open Go.RowKit
attribute [local go_sem] Oper.semAt_some

namespace Bc
def alB : List Bool := [] ++ headB 1 true ++ bdBits 1 [(0, 97)]
theorem alB_len : alB.length = 18 := by decide +kernel
theorem alB_val : Bt.packs false false alB = [75, 4, 0] := by decide +kernel
theorem al_fit : fit [97] [(0, 97)] 0 = true := by decide +kernel
end Bc
theorem bs_one (w : World) : Bs (w.alloc (.cells #[.int .u8 97] 5 (1, 2))) (some ⟨w.heap.size, 0, none⟩) 1 1 [97] := by
  refine ⟨rfl, Nat.le_refl _, by omega, by omega, fun h => (by cases h), fun i hi => ⟨w.heap.size, 0, rfl, by simp, ?_⟩⟩
  obtain rfl : i = 0 := by omega
  rw [cell_of_row _ _ _ _ _ (1, 2) (heap_alloc_last w _)]
  rfl
theorem ts_one (w : World) : Ts2 (w.alloc (.cells #[.int .i64 0, .int .i64 97] 59)) (some ⟨w.heap.size, 0, none⟩) 1 1 [(0, 97)] := by
  refine ⟨rfl, Nat.le_refl _, fun h => (by cases h), fun i hi => ⟨w.heap.size, 0, rfl, by simp, ?_⟩, fun i hi => ?_⟩
  · obtain rfl : i = 0 := by omega
    rw [cell_of_row _ _ _ _ _ (0, 0) (heap_alloc_last w _), cell_of_row _ _ _ _ _ (0, 0) (heap_alloc_last w _)]
    exact ⟨rfl, rfl⟩
  · obtain rfl : i = 0 := by omega
    decide
set_option maxRecDepth 100000 in
set_option maxHeartbeats 1000000 in
theorem alive10_any (w : World) (hoo : Bc.Oo w) (hz : 0 < w.heap.size) : Calls Tryz.prog 7 #[] w fun e w' => e = .returned (.bool true) ∧ Below w.heap.size w w' := by
  have HOO := Lib.hid (And.intro hoo hz)
  clear hoo hz
  go_enter Tryz.func7, Tryz.ntmps7
  go_wp2_with fail
  refine (newWriter_any false w.heap.size w (Nat.le_refl _)).mono ?_
  rintro e w1 ⟨rfl, hwr, hb1⟩
  have hal2 := below_alloc w1 (.cells #[.int .i64 0, .int .i64 97] 59)
  have hal3 := below_alloc (w1.alloc (.cells #[.int .i64 0, .int .i64 97] 59)) (.cells #[.int .u8 97] 5 (1, 2))
  have hb3 := below_then hb1 (below_then hal2 hal3)
  have hg := hwr.lt
  have kc2 := Lib.run_convert_bytes_const (P := Tryz.prog) (w1.alloc (.cells #[.int .i64 0, .int .i64 97] 59)) 22 5 #[.int .u8 97] 1 1 Tryz.underlying22 Tryz.underlying5
  have hsz : (w1.alloc (.cells #[.int .i64 0, .int .i64 97] 59)).heap.size = w1.heap.size + 1 := by simp
  have hwt := Bc.write_1 ((w1.alloc (.cells #[.int .i64 0, .int .i64 97] 59)).alloc (.cells #[.int .u8 97] 5 (1, 2))) w.heap.size w.heap.size (.slice none 0 0) [] (some ⟨w1.heap.size, 0, none⟩) 1 [(0, 97)] (some ⟨(w1.alloc (.cells #[.int .i64 0, .int .i64 97] 59)).heap.size, 0, none⟩) 1 1 [97] true
    (hwr.mono (below_then hal2 hal3)) hb3.size ((ts_one w1).mono hal3) (bs_one _) (by decide) (HOO.out.1.mono HOO.out.2 hb3) (Nat.lt_of_lt_of_le HOO.out.2 hb3.size)
    (fun _ ad e hk => by
      obtain rfl := Option.some.inj e
      rcases hk with hk | hk
      · simp only at hk; omega
      · simp [Value.ownBlock] at hk) Bc.al_fit (by decide)
  have HWT : Hid (Calls Tryz.prog 10 #[.pointer (some ⟨w.heap.size, 0, none⟩), .agg #[.int .i64 1, .slice (some ⟨w1.heap.size, 0, none⟩) 1 1, .slice (some ⟨(w1.alloc (.cells #[.int .i64 0, .int .i64 97] 59)).heap.size, 0, none⟩) 1 1], .bool true] ((w1.alloc (.cells #[.int .i64 0, .int .i64 97] 59)).alloc (.cells #[.int .u8 97] 5 (1, 2))) (Bc.WPost ((w1.alloc (.cells #[.int .i64 0, .int .i64 97] 59)).alloc (.cells #[.int .u8 97] 5 (1, 2))) w.heap.size w.heap.size (.slice none 0 0) Bc.alB)) := Lib.hid hwt
  have HB3 := Lib.hid hb3
  rw [hsz] at HWT kc2
  clear hsz
  clear hal2 hal3 hb3 hwt hwr hb1 hg
  go_wp2_with fail
  refine HWT.out.mono ?_
  rintro e w4 ⟨rfl, v4, hw4, hc4, _⟩
  have hb4 := HB3.out.trans (hc4.below HB3.out.size (fun j e => by
    rcases e with rfl | e
    · exact Nat.le_refl _
    · simp [Value.ownBlock] at e))
  have HBY := Lib.hid (bytes_any w4 w.heap.size w.heap.size false v4 Bc.alB hw4 (by rw [Bc.alB_len]; decide))
  have HB4 := Lib.hid hb4
  clear hw4 hc4 hb4 HWT HB3 kc2
  go_wp2_with fail
  refine HBY.out.mono ?_
  rintro e w5 ⟨x, rfl, ox, hb5⟩
  rw [Bc.alB_val, Bc.alB_len] at ox
  obtain ⟨xa, xc, rfl, hxs⟩ := own_bs ox (by decide)
  have hxs2 : Bs w5 xa 3 xc [75, 4, 0] := hxs
  obtain ⟨bx, offx, rfl, _, cx⟩ := hxs2.at' 0 (by omega)
  obtain ⟨bx1, offx1, e1, _, cx1⟩ := hxs2.at' 1 (by omega)
  obtain ⟨bx2, offx2, e2, _, cx2⟩ := hxs2.at' 2 (by omega)
  simp only [Option.some.injEq, Addr.mk.injEq, and_true] at e1 e2
  obtain ⟨rfl, rfl⟩ := e1
  obtain ⟨rfl, rfl⟩ := e2
  have k0 : w5.cell? ⟨bx, offx, none⟩ = some (.int .u8 75) := cx
  have k1 : w5.cell? ⟨bx, offx + 1, none⟩ = some (.int .u8 4) := cx1
  have k2 : w5.cell? ⟨bx, offx + 2, none⟩ = some (.int .u8 0) := cx2
  have HF := Lib.hid (below_then HB4.out hb5)
  clear hxs hxs2 cx cx1 cx2 ox hb5 HB4 HBY
  go_wp2
  go_ret
  exact ⟨rfl, HF.out⟩
end Go.Proofs.YtpoilaappcjbeaaGreatDoor
end

section
namespace Go.Proofs.YtpoilaappcjbeaaGreatDoor
open Go.RowKit

namespace Bc
theorem i64_xor_nat (a b : Nat) (ha : a < 9223372036854775808) (hb : b < 9223372036854775808) : bits .xor .i64 (a : Int) (b : Int) = ((a ^^^ b : Nat) : Int) := by
  have hx : a ^^^ b < 2 ^ 63 := Nat.xor_lt_two_pow (by omega) (by omega)
  show IntKind.i64.wrap ((BitVec.ofInt 64 (a : Int) ^^^ BitVec.ofInt 64 (b : Int)).toNat : Int) = _
  rw [BitVec.toNat_xor, ofInt_64 a ha, ofInt_64 b hb, i64_wrap_small _ (by omega)]
/-- The bits of a block of kind 0, behind its head. -/
def stB (l : List Bool) (tx : List UInt8) : List Bool :=
  List.replicate ((8 - l.length % 8) % 8) false ++ (Bt.dg false tx.length 16 ++ (Bt.dg false (tx.length ^^^ 65535) 16 ++ tx.flatMap fun x => Bt.dg false x.toNat 8))
/-- What the writer did, told of the pen. -/
theorem pn_of {w w1 : World} {B gp g : Nat} {v v' : Value} {l l' : List Bool} (h : Pn w B gp g v l) (hw : Wr w1 B g false v' l') (hc : Ch w w1 (Wt g v)) (hf : ∀ k, v'.ownBlock = some k → v.ownBlock = some k ∨ w.heap.size ≤ k) : PPost w B gp g v l' (.returned (.tuple #[])) w1 := by
  have hr : w1.heap[gp]? = some (.cells #[.pointer (some ⟨g, 0, none⟩), .nilIface] 77 (0, 0)) := (hc.block gp h.lt (fun e => e.elim h.np h.nv)).trans h.row
  have hv : v'.ownBlock ≠ some gp := fun e => (hf gp e).elim h.nv (fun h1 => by have := h.lt; omega)
  exact ⟨rfl, v', ⟨hr, hw, h.np, hv⟩, hc.wide (U := Pt gp g v) (fun k hk => .inl (.inr hk)), hf⟩
theorem _root_.Go.Proofs.YtpoilaappcjbeaaGreatDoor.Bs.kept0 {w w' : World} {T : Nat → Prop} {a : Option Addr} {len cap : Nat} {l : List UInt8} (h : Bs w a len cap l) (c : Ch w w' T) (hn : 0 < len → ∀ ad, a = some ad → ¬ T ad.block) : Bs w' a len cap l :=
  ⟨h.hlen, h.hle, h.hcap, h.hmax, h.hnil, fun i hi => by
    obtain ⟨b, off, e, hlt, hc⟩ := h.at' i hi
    exact ⟨b, off, e, Nat.lt_of_lt_of_le hlt c.size, by rw [World.cell?_of_block (w := w) (c.block b hlt (hn (by omega) _ e))]; exact hc⟩⟩
theorem gb_toNat (tx : List UInt8) (k : Nat) : (tx.getD k 0).toNat = gb tx k := rfl
set_option maxRecDepth 100000 in
set_option maxHeartbeats 800000 in
theorem pstored_any (w : World) (B gp g : Nat) (v : Value) (l : List Bool) (xa : Option Addr) (xc : Nat) (tx : List UInt8) (hp : Pn w B gp g v l) (hB : B ≤ w.heap.size) (hb : Bs w xa tx.length xc tx) (hD : 0 < tx.length → ∀ ad, xa = some ad → ¬ Pt gp g v ad.block) (hx : tx.length < 2 ^ 16) (hl : l.length ≤ 800000000000) :
    Calls Tryz.prog 35 #[.pointer (some ⟨gp, 0, none⟩), .slice xa tx.length xc] w (PPost w B gp g v (l ++ stB l tx)) := by
  have HK : Hid (∀ w', Ch w w' (Pt gp g v) → Bs w' xa tx.length xc tx) := Lib.hid (fun w' c => hb.kept0 c hD)
  have hx2 : tx.length ^^^ 65535 < 2 ^ 16 := Nat.xor_lt_two_pow hx (by decide)
  obtain ⟨X1, hX1⟩ : ∃ X1, X1 = List.replicate ((8 - l.length % 8) % 8) false := ⟨_, rfl⟩
  obtain ⟨X2, hX2⟩ : ∃ X2, X2 = Bt.dg false tx.length 16 := ⟨_, rfl⟩
  obtain ⟨X3, hX3⟩ : ∃ X3, X3 = Bt.dg false (tx.length ^^^ 65535) 16 := ⟨_, rfl⟩
  have HY : Hid (l ++ stB l tx = l ++ X1 ++ X2 ++ X3 ++ fl (fun x => Bt.dg false x.toNat 8) tx tx.length) := Lib.hid (by
    rw [fl_all, hX1, hX2, hX3]; unfold stB; simp only [List.append_assoc])
  have hz : tx.length < 65536 := hx
  have HFL := Lib.hid (fl_le (fun x : UInt8 => Bt.dg false x.toNat 8) tx 0 8 (fun i _ => by simp [Bt.dg_length]))
  have HNX := Lib.hid (fun k (hk : k < tx.length) => fl_next (fun x : UInt8 => Bt.dg false x.toNat 8) tx k 0 hk)
  have HX : Hid ((l ++ X1 ++ X2 ++ X3).length ≤ 800000000100) := Lib.hid (by
    simp only [List.length_append]
    rw [hX1, hX2, hX3, List.length_replicate, Bt.dg_length, Bt.dg_length]; omega)
  have HX1 : Hid (X1.length ≤ 7) := Lib.hid (by rw [hX1, List.length_replicate]; omega)
  have HX2 : Hid (X2.length = 16) := Lib.hid (by rw [hX2, Bt.dg_length])
  have hal := align_any w B g false v l hp.wr hB (by omega)
  unfold AlignPost at hal
  rw [← hX1] at hal
  have HAL := Lib.hid hal
  clear hal
  have HC2 := Lib.hid hX2
  have HC3 := Lib.hid hX3
  have HP := Lib.hid hp
  have HXX := Lib.hid (And.intro hx hx2)
  have HZ := Lib.hid hz
  have hxor : bits .xor .i64 ((tx.length : Nat) : Int) 65535 = ((tx.length ^^^ 65535 : Nat) : Int) := by
    rw [show (65535 : Int) = ((65535 : Nat) : Int) from rfl]
    exact i64_xor_nat tx.length 65535 (by omega) (by omega)
  have c0 := cell_of_row _ _ 0 _ _ (0, 0) hp.row
  simp only [List.getElem?_toArray, List.getElem?_cons_zero, List.getElem?_cons_succ] at c0
  obtain ⟨Y, hY⟩ : ∃ Y, Y = l ++ stB l tx := ⟨_, rfl⟩
  rw [← hY]
  have HYY := Lib.hid hY
  clear hY hX1 hX2 hX3 hp hb hD hx hx2 hz
  generalize (tx.length ^^^ 65535) = m at *
  generalize hn : tx.length = n at *
  have HN := Lib.hid hn
  clear hn
  go_enter Tryz.func35, Tryz.ntmps35
  go_wp2_with fail
  refine HAL.out.mono ?_
  rintro e w1 ⟨rfl, v1', hw1, hc1, hf1⟩
  obtain ⟨_, v1, q1, c1, f1⟩ := pn_of HP.out hw1 hc1 hf1
  have HN2 := Lib.hid (number_any w1 B gp g v1 _ n 16 q1 (Nat.le_trans hB c1.size) (by omega) HXX.out.1 (by have := HX1.out; rw [List.length_append]; omega))
  rw [← HC2.out] at HN2
  have HT1 : Hid (∀ l2 e w2, PPost w1 B gp g v1 l2 e w2 → PPost w B gp g v l2 e w2) := Lib.hid (fun l2 e w2 hp => PPost.trans q1 c1 f1 hp)
  clear q1 c1 f1 hw1 hc1 hf1 HAL c0
  go_wp2_with fail
  refine HN2.out.mono ?_
  rintro e w2 hp2
  have hp3 := HT1.out _ _ _ hp2
  clear hp2
  obtain ⟨rfl, v2, q2, c2, f2⟩ := hp3
  have HN3 := Lib.hid (number_any w2 B gp g v2 _ m 16 q2 (Nat.le_trans hB c2.size) (by omega) HXX.out.2 (by have := HX1.out; rw [List.length_append, List.length_append, HX2.out]; omega))
  rw [← HC3.out] at HN3
  have HT2 : Hid (∀ l2 e w3, PPost w2 B gp g v2 l2 e w3 → PPost w B gp g v l2 e w3) := Lib.hid (fun l2 e w3 hp => PPost.trans q2 c2 f2 hp)
  clear q2 c2 f2 HN2 HT1
  go_wp2_with fail
  refine HN3.out.mono ?_
  rintro e w3 hp3
  have hp4 := HT2.out _ _ _ hp3
  clear hp3
  obtain ⟨rfl, hp5⟩ := hp4
  have HP3 : Hid (PPost w B gp g v (l ++ X1 ++ X2 ++ X3) (.returned (.tuple #[])) w3) := Lib.hid ⟨rfl, hp5⟩
  clear hp5 HN3 HT2 hxor
  generalize l ++ X1 ++ X2 ++ X3 = Z at *
  have hnb : n ≤ 1000000 := by have := HZ.out; omega
  go_wp2_with fail
  go_loopw [22] (fun iv wr => ∃ k : Nat, k ≤ n ∧ iv = .int .i64 k ∧ Hid (PPost w B gp g v (Z ++ fl (fun x => Bt.dg false x.toNat 8) tx k) (.returned (.tuple #[])) wr)) (fun iv _ => n - (intOf iv).toNat)
  case atStart => exact ⟨0, by omega, rfl, by simpa [fl] using HP3⟩
  case round =>
    obtain ⟨k, hk, rfl, HP'⟩ := hrel
    clear HP3
    by_cases hlt : k < n
    · obtain ⟨_, v4, q4, c4, f4⟩ := HP'.out
      obtain ⟨bo, oo, rfl, _, t0⟩ := (HK.out wr c4).at' k hlt
      have hnx := HNX.out k hlt
      have hfo := HFL.out k hk
      have hg := gb_lt tx k
      simp only [gb_toNat] at hnx
      have HNXX := Lib.hid hnx
      generalize gb tx k = z at *
      have HN4 := Lib.hid (number_any wr B gp g v4 _ z 8 q4 (Nat.le_trans hB c4.size) (by omega) (by have : (2 : Nat) ^ 8 = 256 := rfl; omega) (by rw [List.length_append]; have := HX.out; have := HZ.out; omega : (Z ++ fl (fun x => Bt.dg false x.toNat 8) tx k).length ≤ 1000000000000))
      have HT4 : Hid (∀ l2 e w3, PPost wr B gp g v4 l2 e w3 → PPost w B gp g v l2 e w3) := Lib.hid (fun l2 e w3 hp => PPost.trans q4 c4 f4 hp)
      clear q4 c4 f4 HP' hnx hfo
      go_wp2_with fail
      refine HN4.out.mono ?_
      rintro e w5 hp5
      have HP5 : Hid (PPost w B gp g v (Z ++ fl (fun x => Bt.dg false x.toNat 8) tx (k + 1)) e w5) := Lib.hid (by
        have := HT4.out _ _ _ hp5
        rw [HNXX.out, ← List.append_assoc]
        exact this)
      obtain ⟨rfl, _⟩ := hp5
      clear HN4 HT4 HNXX t0
      go_wp2
      go_roundw
      case rel => exact ⟨k + 1, by omega, by go_num, HP5⟩
      case measure => simp [intOf]; omega
    · obtain rfl : n = k := by omega
      go_wp2
      go_end0
      rw [HYY.out, HY.out]
      exact HP'.out
end Bc
end Go.Proofs.YtpoilaappcjbeaaGreatDoor
end

section
namespace Go.Proofs.YtpoilaappcjbeaaGreatDoor
open Go.RowKit

namespace Bc
set_option maxRecDepth 100000 in
set_option maxHeartbeats 1000000 in
theorem write_0 (w : World) (B g : Nat) (v : Value) (l : List Bool) (a : Option Addr) (cap : Nat) (ts : List Tok) (xa : Option Addr) (xc : Nat) (tx : List UInt8) (last : Bool) (hw : Wr w B g false v l) (hB : B ≤ w.heap.size) (h : Ts2 w a ts.length cap ts) (hb : Bs w xa tx.length xc tx) (hlen : ts.length ≤ 1000000)
    (hxa : 0 < tx.length → ∀ ad, xa = some ad → ¬ Wt g v ad.block) (hv : vB 0 ts tx = true) (hx : tx.length < 2 ^ 16) (hl : l.length ≤ 600000000000) :
    Calls Tryz.prog 10 #[.pointer (some ⟨g, 0, none⟩), .agg #[.int .i64 0, .slice a ts.length cap, .slice xa tx.length xc], .bool last] w (WPost w B g v (l ++ headB 0 last ++ stB (l ++ headB 0 last) tx)) := by
  have hal := below_alloc w (.cells #[.int .i64 0, .slice a ts.length cap, .slice xa tx.length xc] 36)
  have hrow := heap_alloc_last w (.cells #[.int .i64 0, .slice a ts.length cap, .slice xa tx.length xc] 36)
  have HV := Lib.hid (isValid_any 0 a ts.length cap ts xa tx.length xc tx _ (h.mono hal) (hb.mono hal) (by omega))
  have HVB := Lib.hid hv
  have HX := Lib.hid hx
  have HBS := Lib.hid (fun w' (hb' : Below w.heap.size w w') => hb.mono hb')
  have HW := Lib.hid (fun w' (hb' : Below w.heap.size w w') => hw.mono hb')
  have HTA : Hid (∀ k, (0 < tx.length ∧ ∃ ad, xa = some ad ∧ k = ad.block) → k < w.heap.size ∧ ¬ Wt g v k) := Lib.hid (fun k hk => by
    obtain ⟨hn, ad, e, rfl⟩ := hk
    refine ⟨?_, hxa hn ad e⟩
    obtain ⟨b, off, e1, hlt, _⟩ := hb.at' 0 hn
    rw [e1] at e
    obtain rfl := Option.some.inj e
    exact hlt)
  have HLT : Hid (∀ k, Wt g v k → k < w.heap.size) := Lib.hid (fun k hk => by
    rcases hk with rfl | hk
    · exact hw.lt
    · exact (hw.own.lt k hk).2)
  have HB := Lib.hid hB
  have HL := Lib.hid hl
  have HAL := Lib.hid hal
  have HRW := Lib.hid hrow
  have c0 := cell_of_row _ _ 0 _ _ (0, 0) hrow
  have c1 := cell_of_row _ _ 1 _ _ (0, 0) hrow
  have c2 := cell_of_row _ _ 2 _ _ (0, 0) hrow
  simp only [List.getElem?_toArray, List.getElem?_cons_zero, List.getElem?_cons_succ] at c0 c1 c2
  clear hal hrow h hb hxa hv hw hB hl hlen hx
  obtain ⟨Y, hY⟩ : ∃ Y, Y = l ++ headB 0 last ++ stB (l ++ headB 0 last) tx := ⟨_, rfl⟩
  rw [← hY]
  have HY := Lib.hid hY
  clear hY
  go_enter Tryz.func10, Tryz.ntmps10
  go_wp2_with fail
  refine HV.out.mono ?_
  rintro e w2 ⟨rfl, hb2⟩
  rw [HVB.out]
  have HB2 := Lib.hid (below_then HAL.out hb2)
  have HH := Lib.hid (high_any w2 B g false v l (HW.out _ HB2.out))
  have hr2 := (hb2.block w.heap.size (by simp)).trans HRW.out
  have HQ2 : Hid (w.heap.size < w2.heap.size) := Lib.hid (by have := hb2.size; simp at this; omega)
  clear hb2 HV HVB HAL HRW c0 c1 c2
  go_wp2_with fail
  refine HH.out.mono ?_
  rintro e w' ⟨rfl, rfl⟩
  have hal3 := below_alloc w2 (.cells #[.pointer (some ⟨g, 0, none⟩), .nilIface] 77)
  have hrow3 := heap_alloc_last w2 (.cells #[.pointer (some ⟨g, 0, none⟩), .nilIface] 77)
  have hb3 := below_then HB2.out hal3
  have hp3 : Pn (w2.alloc (.cells #[.pointer (some ⟨g, 0, none⟩), .nilIface] 77)) B w2.heap.size g v l := ⟨hrow3, HW.out _ hb3, fun e => by have := HLT.out g (.inl rfl); have := HQ2.out; omega, fun e => by have := HLT.out _ (.inr e); have := HQ2.out; omega⟩
  have hr3 := (hal3.block w.heap.size HQ2.out).trans hr2
  have HB3 := Lib.hid hb3
  have hhd := head_any _ B w2.heap.size g v l 0 last hp3 (Nat.le_trans HB.out hb3.size) (by omega) (by have := HL.out; omega)
  rw [show (((0 : Nat)) : Int) = 0 from rfl] at hhd
  have HHD := Lib.hid hhd
  have HGP : Hid (w.heap.size ≤ w2.heap.size) := Lib.hid (by have := HQ2.out; omega)
  have HHL : Hid ((l ++ headB 0 last).length ≤ 700000000000) := Lib.hid (by
    have := HL.out
    unfold headB
    rw [List.length_append, List.length_append, Bt.dg_length, Bt.dg_length]; omega)
  have HK : Hid (∀ w6 e l6, PPost (w2.alloc (.cells #[.pointer (some ⟨g, 0, none⟩), .nilIface] 77)) B w2.heap.size g v l6 e w6 → w6.heap[w.heap.size]? = some (.cells #[.int .i64 0, .slice a ts.length cap, .slice xa tx.length xc] 36 (0, 0))) := Lib.hid (fun w6 e l6 h6 => by
    obtain ⟨_, _, _, c6, _⟩ := h6
    refine (c6.block w.heap.size (by have := HQ2.out; simp; omega) (fun e => ?_)).trans hr3
    rcases e with e | e
    · have := HQ2.out; omega
    · have := HLT.out _ e; omega)
  have HST : Hid (∀ w6 e l6, l6.length ≤ 800000000000 → PPost (w2.alloc (.cells #[.pointer (some ⟨g, 0, none⟩), .nilIface] 77)) B w2.heap.size g v l6 e w6 → Calls Tryz.prog 35 #[.pointer (some ⟨w2.heap.size, 0, none⟩), .slice xa tx.length xc] w6 (PPost (w2.alloc (.cells #[.pointer (some ⟨g, 0, none⟩), .nilIface] 77)) B w2.heap.size g v (l6 ++ stB l6 tx))) := Lib.hid (fun w6 e l6 hl6 h6 => by
    obtain ⟨_, v6, p6, c6, f6⟩ := h6
    have hnp : ∀ k, (0 < tx.length ∧ ∃ ad, xa = some ad ∧ k = ad.block) → ¬ Pt w2.heap.size g v k := fun k hk e => by
      have h1 := HTA.out k hk
      rcases e with e | e
      · have := HQ2.out; omega
      · exact h1.2 e
    have hbs := (HBS.out _ HB3.out).kept0 c6 (fun hn ad e => hnp _ ⟨hn, ad, e, rfl⟩)
    refine (pstored_any w6 B w2.heap.size g v6 l6 xa xc tx p6 (Nat.le_trans (Nat.le_trans HB.out HB3.out.size) c6.size) hbs (fun hn ad e hk => ?_) HX.out hl6).mono (fun e7 w7 h7 => PPost.trans p6 c6 f6 h7)
    have h1 := HTA.out ad.block ⟨hn, ad, e, rfl⟩
    have h2 := hnp ad.block ⟨hn, ad, e, rfl⟩
    rcases hk with hk | hk | hk
    · exact h2 (.inl hk)
    · exact h2 (.inr (.inl hk))
    · rcases f6 _ hk with h | h
      · exact h2 (.inr (.inr h))
      · have := HB3.out.size; omega)
  have c0 := cell_of_row _ _ 0 _ _ (0, 0) hr3
  simp only [List.getElem?_toArray, List.getElem?_cons_zero, List.getElem?_cons_succ] at c0
  clear hal3 hrow3 hb3 hp3 hr3 hr2 HH hhd HX HTA HBS
  go_wp2_with fail
  refine HHD.out.mono ?_
  rintro e w6 hp6
  have hk6 := HK.out _ _ _ hp6
  have HSTO := Lib.hid (HST.out w6 e _ (by have := HHL.out; omega) hp6)
  obtain ⟨rfl, _⟩ := hp6
  have y2 := cell_of_row _ _ 2 _ _ (0, 0) hk6
  simp only [List.getElem?_toArray, List.getElem?_cons_zero, List.getElem?_cons_succ] at y2
  clear hk6 HHD HST HK c0
  go_wp2_with fail
  refine HSTO.out.mono ?_
  rintro e w7 hp7
  have HF : Hid (WPost w B g v Y (.returned .nilIface) w7) := Lib.hid (by rw [HY.out]; exact wpost_of HB3.out HGP.out hp7)
  obtain ⟨rfl, v7, p7, _, _⟩ := hp7
  have k1 := cell_of_row _ _ 1 _ _ (0, 0) p7.row
  simp only [List.getElem?_toArray, List.getElem?_cons_zero, List.getElem?_cons_succ] at k1
  clear p7 y2 HSTO HB3
  go_wp2
  go_ret
  exact HF.out
end Bc
end Go.Proofs.YtpoilaappcjbeaaGreatDoor
end

section
namespace Go.Proofs.YtpoilaappcjbeaaGreatDoor
open Go.ChangeShapes Go.WideShapes Go.ChangeAt Go.RowKit

theorem laid_oo : (Rows.laid_burnish_block_ownOrder : DataW Unit) = .agg (Bc.order.map fun n => .lit (.int .i64 ((n : Nat) : Int))) := by kernel_rfl
theorem oo_of_laid {W : World} (h : laidMetH Tryz.prog [("burnish/block.ownOrder", Rows.laid_burnish_block_ownOrder)] W) : Bc.Oo W ∧ 0 < W.heap.size := by
  rw [MakeChecks.laidMetH_plain _ _ _ (by kernel_rfl)] at h
  obtain ⟨ps, ⟨g, t, cs, fuel, p, q, hg, ht, hv, hd, _, _⟩, _, _⟩ := h
  obtain rfl := Option.some.inj ((show Tryz.prog.globalNamed "burnish/block.ownOrder" = some 0 by kernel_rfl).symm.trans hg)
  obtain rfl := Option.some.inj ((show (Tryz.prog.globals[0]?).map (·.type) = some 135 by kernel_rfl).symm.trans ht)
  obtain ⟨xs, m, _, ex, _, hl, hel⟩ := DataW.trod_array Tryz.underlying135 hd
  have c5 : Tryz.prog.cellsOf 3 = 1 := by kernel_rfl
  have hcell : Bc.Oo W := fun r hr => by
    have hE := hel r hr
    rw [c5, Nat.mul_one, List.getElem?_eq_getElem (by omega)] at hE
    obtain ⟨z, e1, e2, _⟩ := DataW.trod_int Tryz.underlying3 hE
    have hlen : Bc.order.length = 19 := by rfl
    have e3 : (xs.map (·.1)) = Bc.order.map fun n => .lit (.int .i64 ((n : Nat) : Int)) := by
      have := (Prod.mk.inj ex).1
      rw [laid_oo] at this
      exact (DataW.agg.inj this).symm
    have e4 : (xs.map (·.1))[r]? = (Bc.order.map fun n => (DataW.lit (.int .i64 ((n : Nat) : Int)) : DataW Unit))[r]? := by rw [e3]
    rw [List.getElem?_map, List.getElem?_map, List.getElem?_eq_getElem (by omega : r < xs.length), List.getElem?_eq_getElem (by omega : r < Bc.order.length), e2] at e4
    have hz : z = ((Bc.order.getD r 0 : Nat) : Int) := by
      simp only [Option.map_some, Option.some.injEq, DataW.lit.injEq, Lit.int.injEq, true_and] at e4
      rw [e4, List.getD, List.getElem?_eq_getElem (by omega : r < Bc.order.length)]; rfl
    rw [World.var?_cell hg hv r, ← hz]
    have : cs.toList[r]? = some (.int .i64 z) := by
      have h0 : ((cs.toList.drop r).take 1)[0]? = some (.int .i64 z) := by rw [e1]; rfl
      simpa using h0
    simpa using this
  refine ⟨hcell, ?_⟩
  have h0 := hcell 0 (by omega)
  rcases Nat.lt_or_ge 0 W.heap.size with hz | hz
  · exact hz
  · exfalso
    have hn : W.heap[0]? = none := Array.getElem?_eq_none (by omega)
    simp [World.cell?, hn] at h0
end Go.Proofs.YtpoilaappcjbeaaGreatDoor
end
