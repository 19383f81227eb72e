/- (*Book).inOrder: the iterator's contract. -/
import Derived.RangeFuncNested
import Derived.RangeFuncBound
import Derived.RangeFuncCalls
import Derived.RangeFuncLeaves
import Derived.RangeFuncFrom
import Derived.Shelf.Abstract
import Derived.Shelf.RegionOpen
import Derived.OwnWalkIn
import Derived.TacticsInMore
import Derived.LoopNIn
import Derived.LoopIn
import Derived.RegionIn
import Derived.Test.YtnlbomijnldlmaaBookMem
namespace Go.Proofs.Ytnlbomijnldlmaa
open Go.RowKit Go.Shelf
attribute [local go_sem] Oper.semAt_some
namespace Bk
/-- A code that is handed over. -/
structure Em (R : Nat → List Nat) where
  x : It
  mem : x ∈ seq R 17
def Em.encs {R : Nat → List Nat} (x : Em R) : Array Value := #[.int .i64 (x.x.s : Nat), .agg #[.int .i64 (x.x.c : Nat), .int .i64 (x.x.n : Nat)]]
set_option maxRecDepth 100000 in
set_option maxHeartbeats 2000000 in
theorem inOrder1_in (F : Fence) (n : Nat) (h7 : F.fn 54) (hro : F.round = none) (hn : 1 ≤ n) (y X g B : Nat) (U : Nat → Prop) (fs : Nat → Int) (vs : Nat → Value) (wv : Value) (ev : Int) (R : Nat → List Nat)
    (hfs : ∀ n, n < 17 → fs n = (fst R n : Nat)) (hsm : ∀ n, n < 17 → fst R n + (R n).length ≤ 1000000) (hT : ∀ k, Tr vs k → ¬ U k)
    (J Jx : List (Em R) → World → Prop)
    (hY : ∀ pre x W, J pre W → pre.length < (seq R 17).length → YieldAt F (n - 1) Try.prog y x.encs W fun e W' =>
      (e = .returned (.bool true) ∧ J (pre ++ [x]) W' ∧ Kc U W W') ∨ (e = .returned (.bool false) ∧ Jx (pre ++ [x]) W'))
    (W : World) (hx : W.cell? ⟨X, 0, none⟩ = some (.pointer (some ⟨g, 0, none⟩))) (hg : W.heap[g]? = some (.cells (bkCells fs vs wv ev) 105 (0, 0))) (hrows : Rows W B vs R) (h0 : J [] W)
    (hU : ∀ k, U k → k < W.heap.size) (hJn : ∀ xs A B, J xs A → A.grownBy B none → J xs B) :
    CallsIn F n Try.prog 54 #[.func (.yield y) #[] #[], .pointer (some ⟨X, 0, none⟩)] W fun e W' => (∃ v, e = .returned v) ∧
      ((∃ ys, ys.map Em.x = seq R 17 ∧ J ys W') ∨ (∃ pre, (∃ t, seq R 17 = pre.map Em.x ++ t) ∧ Jx pre W')) := by
  refine callsIn_of_wp Try.func54 rfl h7 ?_ hro
  simp only [Try.ntmps54, List.size_toArray, List.length_cons, List.length_nil, Nat.reduceAdd, Nat.reduceSub, Array.replicate_succ, Array.replicate_zero, List.push_toArray, List.append_toArray, List.nil_append, List.cons_append]
  have HG := Lib.hid (load_sqs W g fs vs wv ev hg)
  gi_wp2_with (refine wplIn_load rfl 101 _ rfl ⟨g, 0, none⟩ rfl _ HG.out ?_)
  clear HG hg hx
  have H0 := Lib.hid hrows
  have HFS := Lib.hid hfs
  have HSM := Lib.hid hsm
  have HT := Lib.hid hT
  have HU := Lib.hid hU
  have HJ := Lib.hid hJn
  have HY := Lib.hid hY
  have hb0 := Below.refl W.heap.size W
  clear hrows hfs hsm hT hU hJn hY
  gi_loopw [13] (fun i wr => ∃ (m : Nat) (ys : List (Em R)), m ≤ 17 ∧ i = .int .i64 m ∧ W.heap.size ≤ wr.heap.size ∧ Hid (ys.map Em.x = seq R m) ∧ Hid (J ys wr) ∧ Hid (Rows wr B vs R))
    (fun i _ => 17 - (intOf i).toNat)
  case atStart => exact ⟨0, [], by omega, rfl, Nat.le_refl _, Lib.hid rfl, Lib.hid h0, H0⟩
  case round =>
    obtain ⟨m, ys, hm, rfl, hz, HM, HJs, HR⟩ := hrel
    by_cases hlt : m < 17
    · have hix := fun w => idx_sqs w fs vs m hlt
      have hown := HR.out m hlt
      rw [HFS.out m hlt] at hix
      obtain ⟨ra, rc, hv, hat⟩ : ∃ ra rc, vs m = .slice ra (R m).length rc ∧ ∀ i, i < (R m).length → ∃ rb, ra = some ⟨rb, 0, none⟩ := by
        rcases own_nil_or hown with ⟨h1, h2⟩ | ⟨rb, rc, h1, _⟩
        · exact ⟨none, 0, by rw [h1, h2], fun i hi => by omega⟩
        · exact ⟨_, rc, h1, fun i _ => ⟨rb, rfl⟩⟩
      rw [hv] at hix
      have hle := HSM.out m hlt
      have HV := Lib.hid hv
      have HAT := Lib.hid hat
      clear hown hv hat
      gi_wp2
      have hgr : wr.grownBy (wr.alloc (.cells #[.int .i64 (fst R m : Nat), .slice ra (R m).length rc] 100)) none := World.grownBy_alloc wr _ none
      have HB2 := Lib.hid (World.alloc_heap_new wr (.cells #[.int .i64 (fst R m : Nat), .slice ra (R m).length rc] 100))
      have HJ2 := Lib.hid (HJ.out ys _ _ HJs.out hgr)
      have HR2 := Lib.hid (HR.out.mono (below_alloc wr (.cells #[.int .i64 (fst R m : Nat), .slice ra (R m).length rc] 100)))
      have hz2 : W.heap.size ≤ (wr.alloc (.cells #[.int .i64 (fst R m : Nat), .slice ra (R m).length rc] 100)).heap.size := by simp; omega
      have HNU := Lib.hid (show ¬ U wr.heap.size from fun h => by have := HU.out _ h; omega)
      clear hgr hix HJs HR
      revert HB2 HJ2 HR2 hz2
      generalize wr.alloc (.cells #[.int .i64 (fst R m : Nat), .slice ra (R m).length rc] 100) = wr2
      intro HB2 HJ2 HR2 hz2
      generalize wr.heap.size = sx at *
      generalize Value.bool (decide ((m : Int) < 17)) = tb
      gi_loopw [20] (fun i wx => ∃ (j : Nat) (ys : List (Em R)), j ≤ (R m).length ∧ i = .int .i64 j ∧ W.heap.size ≤ wx.heap.size ∧ Hid (ys.map Em.x = seq R m ++ rowS R m j) ∧ Hid (J ys wx) ∧ Hid (Rows wx B vs R) ∧ Hid (wx.heap[sx]? = some (.cells #[.int .i64 (fst R m : Nat), .slice ra (R m).length rc] 100)))
        (fun i _ => (R m).length - (intOf i).toNat)
      case atStart => exact ⟨0, ys, by omega, rfl, hz2, Lib.hid (by rw [HM.out]; simp [rowS]), HJ2, HR2, HB2⟩
      case round =>
        obtain ⟨j, zs, hj, rfl, hzx, HMx, HJx, HRx, HBx⟩ := hrel
        by_cases hjl : j < (R m).length
        · obtain ⟨rb, rfl⟩ := HAT.out j hjl
          have hcell : wr.cell? ⟨rb, j, none⟩ = some (.int .i64 ((R m).getD j 0 : Nat)) := by
            have h1 := HRx.out m hlt
            rw [HV.out] at h1
            rw [h1.cellAt j (by omega), ivs_get _ _ (by rw [sy_length]; exact hjl), sy_getD]
          have hc0 : wr.cell? ⟨sx, 0, none⟩ = some (.int .i64 (fst R m : Nat)) := by rw [cell_of_row _ _ _ _ _ (0, 0) HBx.out]; rfl
          have hmem : it R m j ∈ seq R 17 := (mem_seq R 17 _).2 ⟨m, j, hlt, hjl, rfl⟩
          have hlen : zs.length < (seq R 17).length := by
            obtain ⟨t, ht⟩ := seq_mono R (m + 1) 17 (by omega)
            have h1 : zs.length = (seq R m ++ rowS R m j).length := by rw [← HMx.out, List.length_map]
            rw [ht, seq_succ, h1]
            simp only [List.length_append, rowS_length]
            omega
          obtain ⟨fn, tmps, assign, body, hy, hRd⟩ := HY.out zs ⟨it R m j, hmem⟩ wr HJx.out hlen
          have hMn : Hid ((zs ++ [(⟨it R m j, hmem⟩ : Em R)]).map Em.x = seq R m ++ rowS R m (j + 1)) := Lib.hid (by rw [List.map_append, HMx.out, rowS_succ, List.append_assoc]; rfl)
          have henc : (⟨it R m j, hmem⟩ : Em R).encs = #[.int .i64 ((R m).getD j 0 : Nat), .agg #[.int .i64 ((fst R m : Nat) + (j : Nat)), .int .i64 (m : Nat)]] := by
            show #[Value.int .i64 ((R m).getD j 0 : Nat), .agg #[.int .i64 ((fst R m + j : Nat) : Int), .int .i64 (m : Nat)]] = _
            rw [Int.natCast_add]
          rw [henc] at hy
          clear henc hlen
          generalize (⟨it R m j, hmem⟩ : Em R) = x at *
          clear hmem
          generalize (R m).getD j 0 = s at *
          gi_wp2
          refine hRd.mono ?_
          rintro e W3 (⟨rfl, hJ3, hk3⟩ | ⟨rfl, hJx3⟩)
          · have hz3 : W.heap.size ≤ W3.heap.size := by
              have := (Array.getElem?_eq_some_iff.1 (hk3 sx _ HBx.out rfl HNU.out)).1
              omega
            have HJ3 := Lib.hid hJ3
            have HR3 := Lib.hid (HRx.out.kept hk3 HT.out)
            have HB3 := Lib.hid (hk3 sx _ HBx.out rfl HNU.out)
            clear hJ3 hk3 hRd hy hc0 hcell
            gi_wp2
            go_roundw
            case rel => exact ⟨j + 1, zs ++ [x], by omega, by go_num, hz3, hMn, HJ3, HR3, HB3⟩
            case measure => simp [intOf]; omega
          · have HX3 := Lib.hid hJx3
            have HP : Hid (∃ t, seq R 17 = (zs ++ [x]).map Em.x ++ t) := Lib.hid (by
              obtain ⟨t, ht⟩ := seq_mono R (m + 1) 17 (by omega)
              refine ⟨((List.range ((R m).length - (j + 1))).map fun i => it R m (j + 1 + i)) ++ t, ?_⟩
              rw [hMn.out, ht, seq_succ]
              simp only [List.append_assoc]
              congr 1
              rw [← List.append_assoc]
              congr 1
              unfold rowS
              conv => lhs; rw [show (R m).length = (j + 1) + ((R m).length - (j + 1)) by omega, List.range_add, List.map_append, List.map_map]
              rfl)
            clear hJx3 hRd hy hc0 hcell
            gi_wp2
            refine bodyPost_ret (results_none rfl _ _ _) rfl ?_
            exact ⟨⟨_, rfl⟩, .inr ⟨_, HP.out, HX3.out⟩⟩
        · obtain rfl : (R m).length = j := by omega
          gi_wp2
          go_roundw
          case rel => exact ⟨m + 1, zs, by omega, by go_num, hzx, Lib.hid (by rw [HMx.out, seq_succ]), HJx, HRx⟩
          case measure => simp [intOf]; omega
    · obtain rfl : m = 17 := by omega
      gi_wp2
      go_end0
      exact ⟨⟨_, rfl⟩, .inl ⟨ys, HM.out, HJs.out⟩⟩
theorem inOrder_stops (F : Fence) (n : Nat) (h7 : F.fn 54) (hro : F.round = none) (hn : 1 ≤ n) (X g B : Nat) (U : Nat → Prop) (fs : Nat → Int) (vs : Nat → Value) (wv : Value) (ev : Int) (R : Nat → List Nat)
    (hfs : ∀ n, n < 17 → fs n = (fst R n : Nat)) (hsm : ∀ n, n < 17 → fst R n + (R n).length ≤ 1000000) (hT : ∀ k, Tr vs k → ¬ U k)
    (w : World) (hx : w.cell? ⟨X, 0, none⟩ = some (.pointer (some ⟨g, 0, none⟩))) (hXl : X < w.heap.size) (hg : w.heap[g]? = some (.cells (bkCells fs vs wv ev) 105 (0, 0))) (hrows : Rows w B vs R) (hU : ∀ k, U k → k < w.heap.size) :
    SeqStopsK F n Try.prog 54 #[.pointer (some ⟨X, 0, none⟩)] (Em.encs (R := R)) (Kc U) (fun ys => ys.map Em.x = seq R 17) (fun pre => ∃ t, seq R 17 = pre.map Em.x ++ t) (seq R 17).length w := fun y J Jx W hW hJ _ hY h0 => by
  refine inOrder1_in F n h7 hro hn y X g B U fs vs wv ev R hfs hsm hT J Jx hY W ?_ ?_ (hrows.mono hW) h0 (fun k hk => Nat.lt_of_lt_of_le (hU k hk) hW.size) (fun xs A C h g' => hJ xs A C none h g' (fun r e => by cases e))
  · exact (hW.cell (p := ⟨X, 0, none⟩) hXl).trans hx
  · exact (hW.block g (Array.getElem?_eq_some_iff.1 hg).1).trans hg
set_option maxRecDepth 100000 in
theorem inOrder1_nil (F : Fence) (n : Nat) (h7 : F.fn 54) (hro : F.round = none) (y X : Nat) (J : Prop) (W : World) (hx : W.cell? ⟨X, 0, none⟩ = some (.pointer none)) (h0 : J) :
    CallsIn F n Try.prog 54 #[.func (.yield y) #[] #[], .pointer (some ⟨X, 0, none⟩)] W fun e W' => (∃ v, e = .returned v) ∧ J ∧ W = W' := by
  have H0 := Lib.hid h0
  clear h0
  refine callsIn_of_wp Try.func54 rfl h7 ?_ hro
  simp only [Try.ntmps54, List.size_toArray, List.length_cons, List.length_nil, Nat.reduceAdd, Nat.reduceSub, Array.replicate_succ, Array.replicate_zero, List.push_toArray, List.append_toArray, List.nil_append, List.cons_append]
  gi_wp2
  refine bodyPost_ret (results_none rfl _ _ _) rfl ?_
  exact ⟨⟨_, rfl⟩, H0.out, rfl⟩
def noRows : Nat → List Nat := fun _ => []
theorem inOrder_stops_nil (F : Fence) (n : Nat) (h7 : F.fn 54) (hro : F.round = none) (X : Nat) (U : Nat → Prop) (w : World) (hx : w.cell? ⟨X, 0, none⟩ = some (.pointer none)) (hXl : X < w.heap.size) :
    SeqStopsK F n Try.prog 54 #[.pointer (some ⟨X, 0, none⟩)] (Em.encs (R := noRows)) (Kc U) (fun ys => ys = []) (fun _ => True) 0 w := fun y J Jx W hW hJ _ hY h0 => by
  refine (inOrder1_nil F n h7 hro y X (J [] W) W ((hW.cell (p := ⟨X, 0, none⟩) hXl).trans hx) h0).mono ?_
  rintro e W' ⟨he, hj, rfl⟩
  exact ⟨he, .inl ⟨[], rfl, hj⟩⟩
theorem inOrder_in (F : Fence) (n : Nat) (h5 : F.fn 37) (hro : F.round = none) (p : Value) (w : World) (hp : p = .pointer none ∨ ∃ g, p = .pointer (some ⟨g, 0, none⟩)) :
    CallsIn F n Try.prog 37 #[p] w fun e w' => e = .returned (.func (.func 54) #[] #[.pointer (some ⟨w.heap.size, 0, none⟩)]) ∧ w' = w.alloc (.cells #[p] 50) := by
  refine callsIn_of_wp Try.func37 rfl h5 ?_ hro
  simp only [Try.ntmps37, List.size_toArray, List.length_cons, List.length_nil, Nat.reduceAdd, Nat.reduceSub, Array.replicate_succ, Array.replicate_zero, List.push_toArray, List.append_toArray, List.nil_append, List.cons_append]
  rcases hp with rfl | ⟨g, rfl⟩
  · gi_wp2
    go_ret
    exact ⟨rfl, rfl⟩
  · gi_wp2
    go_ret
    exact ⟨rfl, rfl⟩
end Bk
end Go.Proofs.Ytnlbomijnldlmaa
