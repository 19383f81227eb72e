/- (*Book).inOrder: the iterator's contract. canon.newBook: its contract. -/
import Derived.Test.YtjjbgdmalefdlaaGreatDoorZ5
import Derived.Test.YtjjbgdmalefdlaaGreatDoorZ29
import Derived.Test.YtjjbgdmalefdlaaGreatDoorZ31
import Derived.RangeFuncNested
import Derived.RangeFuncBound
import Derived.RangeFuncCalls
import Derived.RangeFuncLeaves
import Derived.RangeFuncFrom
import Derived.Shelf.Abstract
import Derived.Shelf.RegionOpen
import Derived.OwnWalkIn
import Derived.TacticsInMore
import Derived.LoopNIn
import Derived.LoopIn
import Derived.RegionIn
set_option linter.unusedSimpArgs false
set_option linter.unusedVariables false
section
namespace Go.Proofs.YtjjbgdmalefdlaaGreatDoor
open Go.RowKit Go.Shelf
attribute [local go_sem] Oper.semAt_some
namespace Bk
/-- A code that is handed over. -/
structure Em (R : Nat → List Nat) where
  x : It
  mem : x ∈ seq R 17
def Em.encs {R : Nat → List Nat} (x : Em R) : Array Value := #[.int .i64 (x.x.s : Nat), .agg #[.int .i64 (x.x.c : Nat), .int .i64 (x.x.n : Nat)]]
set_option maxRecDepth 100000 in
set_option maxHeartbeats 2000000 in
theorem inOrder1_in (F : Fence) (n : Nat) (h7 : F.fn 130) (hro : F.round = none) (hn : 1 ≤ n) (y X g B : Nat) (U : Nat → Prop) (fs : Nat → Int) (vs : Nat → Value) (wv : Value) (ev : Int) (R : Nat → List Nat)
    (hfs : ∀ n, n < 17 → fs n = (fst R n : Nat)) (hsm : ∀ n, n < 17 → fst R n + (R n).length ≤ 1000000) (hT : ∀ k, Tr vs k → ¬ U k)
    (J Jx : List (Em R) → World → Prop)
    (hY : ∀ pre x W, J pre W → pre.length < (seq R 17).length → YieldAt F (n - 1) Tryz.prog y x.encs W fun e W' =>
      (e = .returned (.bool true) ∧ J (pre ++ [x]) W' ∧ Kc U W W') ∨ (e = .returned (.bool false) ∧ Jx (pre ++ [x]) W'))
    (W : World) (hx : W.cell? ⟨X, 0, none⟩ = some (.pointer (some ⟨g, 0, none⟩))) (hg : W.heap[g]? = some (.cells (bkCells fs vs wv ev) 170 (0, 0))) (hrows : Rows W B vs R) (h0 : J [] W)
    (hU : ∀ k, U k → k < W.heap.size) (hJn : ∀ xs A B, J xs A → A.grownBy B none → J xs B) :
    CallsIn F n Tryz.prog 130 #[.func (.yield y) #[] #[], .pointer (some ⟨X, 0, none⟩)] W fun e W' => (∃ v, e = .returned v) ∧
      ((∃ ys, ys.map Em.x = seq R 17 ∧ J ys W') ∨ (∃ pre, (∃ t, seq R 17 = pre.map Em.x ++ t) ∧ Jx pre W')) := by
  refine callsIn_of_wp Tryz.func130 rfl h7 ?_ hro
  simp only [Tryz.ntmps130, List.size_toArray, List.length_cons, List.length_nil, Nat.reduceAdd, Nat.reduceSub, Array.replicate_succ, Array.replicate_zero, List.push_toArray, List.append_toArray, List.nil_append, List.cons_append]
  have HG := Lib.hid (load_sqs W g fs vs wv ev hg)
  gi_wp2_with (refine wplIn_load rfl 167 _ rfl ⟨g, 0, none⟩ rfl _ HG.out ?_)
  clear HG hg hx
  have H0 := Lib.hid hrows
  have HFS := Lib.hid hfs
  have HSM := Lib.hid hsm
  have HT := Lib.hid hT
  have HU := Lib.hid hU
  have HJ := Lib.hid hJn
  have HY := Lib.hid hY
  have hb0 := Below.refl W.heap.size W
  clear hrows hfs hsm hT hU hJn hY
  gi_loopw [13] (fun i wr => ∃ (m : Nat) (ys : List (Em R)), m ≤ 17 ∧ i = .int .i64 m ∧ W.heap.size ≤ wr.heap.size ∧ Hid (ys.map Em.x = seq R m) ∧ Hid (J ys wr) ∧ Hid (Rows wr B vs R))
    (fun i _ => 17 - (intOf i).toNat)
  case atStart => exact ⟨0, [], by omega, rfl, Nat.le_refl _, Lib.hid rfl, Lib.hid h0, H0⟩
  case round =>
    obtain ⟨m, ys, hm, rfl, hz, HM, HJs, HR⟩ := hrel
    by_cases hlt : m < 17
    · have hix := fun w => idx_sqs w fs vs m hlt
      have hown := HR.out m hlt
      rw [HFS.out m hlt] at hix
      obtain ⟨ra, rc, hv, hat⟩ : ∃ ra rc, vs m = .slice ra (R m).length rc ∧ ∀ i, i < (R m).length → ∃ rb, ra = some ⟨rb, 0, none⟩ := by
        rcases own_nil_or hown with ⟨h1, h2⟩ | ⟨rb, rc, h1, _⟩
        · exact ⟨none, 0, by rw [h1, h2], fun i hi => by omega⟩
        · exact ⟨_, rc, h1, fun i _ => ⟨rb, rfl⟩⟩
      rw [hv] at hix
      have hle := HSM.out m hlt
      have HV := Lib.hid hv
      have HAT := Lib.hid hat
      clear hown hv hat
      gi_wp2
      have hgr : wr.grownBy (wr.alloc (.cells #[.int .i64 (fst R m : Nat), .slice ra (R m).length rc] 166)) none := World.grownBy_alloc wr _ none
      have HB2 := Lib.hid (World.alloc_heap_new wr (.cells #[.int .i64 (fst R m : Nat), .slice ra (R m).length rc] 166))
      have HJ2 := Lib.hid (HJ.out ys _ _ HJs.out hgr)
      have HR2 := Lib.hid (HR.out.mono (below_alloc wr (.cells #[.int .i64 (fst R m : Nat), .slice ra (R m).length rc] 166)))
      have hz2 : W.heap.size ≤ (wr.alloc (.cells #[.int .i64 (fst R m : Nat), .slice ra (R m).length rc] 166)).heap.size := by simp; omega
      have HNU := Lib.hid (show ¬ U wr.heap.size from fun h => by have := HU.out _ h; omega)
      clear hgr hix HJs HR
      revert HB2 HJ2 HR2 hz2
      generalize wr.alloc (.cells #[.int .i64 (fst R m : Nat), .slice ra (R m).length rc] 166) = wr2
      intro HB2 HJ2 HR2 hz2
      generalize wr.heap.size = sx at *
      generalize Value.bool (decide ((m : Int) < 17)) = tb
      gi_loopw [20] (fun i wx => ∃ (j : Nat) (ys : List (Em R)), j ≤ (R m).length ∧ i = .int .i64 j ∧ W.heap.size ≤ wx.heap.size ∧ Hid (ys.map Em.x = seq R m ++ rowS R m j) ∧ Hid (J ys wx) ∧ Hid (Rows wx B vs R) ∧ Hid (wx.heap[sx]? = some (.cells #[.int .i64 (fst R m : Nat), .slice ra (R m).length rc] 166)))
        (fun i _ => (R m).length - (intOf i).toNat)
      case atStart => exact ⟨0, ys, by omega, rfl, hz2, Lib.hid (by rw [HM.out]; simp [rowS]), HJ2, HR2, HB2⟩
      case round =>
        obtain ⟨j, zs, hj, rfl, hzx, HMx, HJx, HRx, HBx⟩ := hrel
        by_cases hjl : j < (R m).length
        · obtain ⟨rb, rfl⟩ := HAT.out j hjl
          have hcell : wr.cell? ⟨rb, j, none⟩ = some (.int .i64 ((R m).getD j 0 : Nat)) := by
            have h1 := HRx.out m hlt
            rw [HV.out] at h1
            rw [h1.cellAt j (by omega), ivs_get _ _ (by rw [sy_length]; exact hjl), sy_getD]
          have hc0 : wr.cell? ⟨sx, 0, none⟩ = some (.int .i64 (fst R m : Nat)) := by rw [cell_of_row _ _ _ _ _ (0, 0) HBx.out]; rfl
          have hmem : it R m j ∈ seq R 17 := (mem_seq R 17 _).2 ⟨m, j, hlt, hjl, rfl⟩
          have hlen : zs.length < (seq R 17).length := by
            obtain ⟨t, ht⟩ := seq_mono R (m + 1) 17 (by omega)
            have h1 : zs.length = (seq R m ++ rowS R m j).length := by rw [← HMx.out, List.length_map]
            rw [ht, seq_succ, h1]
            simp only [List.length_append, rowS_length]
            omega
          obtain ⟨fn, tmps, assign, body, hy, hRd⟩ := HY.out zs ⟨it R m j, hmem⟩ wr HJx.out hlen
          have hMn : Hid ((zs ++ [(⟨it R m j, hmem⟩ : Em R)]).map Em.x = seq R m ++ rowS R m (j + 1)) := Lib.hid (by rw [List.map_append, HMx.out, rowS_succ, List.append_assoc]; rfl)
          have henc : (⟨it R m j, hmem⟩ : Em R).encs = #[.int .i64 ((R m).getD j 0 : Nat), .agg #[.int .i64 ((fst R m : Nat) + (j : Nat)), .int .i64 (m : Nat)]] := by
            show #[Value.int .i64 ((R m).getD j 0 : Nat), .agg #[.int .i64 ((fst R m + j : Nat) : Int), .int .i64 (m : Nat)]] = _
            rw [Int.natCast_add]
          rw [henc] at hy
          clear henc hlen
          generalize (⟨it R m j, hmem⟩ : Em R) = x at *
          clear hmem
          generalize (R m).getD j 0 = s at *
          gi_wp2
          refine hRd.mono ?_
          rintro e W3 (⟨rfl, hJ3, hk3⟩ | ⟨rfl, hJx3⟩)
          · have hz3 : W.heap.size ≤ W3.heap.size := by
              have := (Array.getElem?_eq_some_iff.1 (hk3 sx _ HBx.out rfl HNU.out)).1
              omega
            have HJ3 := Lib.hid hJ3
            have HR3 := Lib.hid (HRx.out.kept hk3 HT.out)
            have HB3 := Lib.hid (hk3 sx _ HBx.out rfl HNU.out)
            clear hJ3 hk3 hRd hy hc0 hcell
            gi_wp2
            go_roundw
            case rel => exact ⟨j + 1, zs ++ [x], by omega, by go_num, hz3, hMn, HJ3, HR3, HB3⟩
            case measure => simp [intOf]; omega
          · have HX3 := Lib.hid hJx3
            have HP : Hid (∃ t, seq R 17 = (zs ++ [x]).map Em.x ++ t) := Lib.hid (by
              obtain ⟨t, ht⟩ := seq_mono R (m + 1) 17 (by omega)
              refine ⟨((List.range ((R m).length - (j + 1))).map fun i => it R m (j + 1 + i)) ++ t, ?_⟩
              rw [hMn.out, ht, seq_succ]
              simp only [List.append_assoc]
              congr 1
              rw [← List.append_assoc]
              congr 1
              unfold rowS
              conv => lhs; rw [show (R m).length = (j + 1) + ((R m).length - (j + 1)) by omega, List.range_add, List.map_append, List.map_map]
              rfl)
            clear hJx3 hRd hy hc0 hcell
            gi_wp2
            refine bodyPost_ret (results_none rfl _ _ _) rfl ?_
            exact ⟨⟨_, rfl⟩, .inr ⟨_, HP.out, HX3.out⟩⟩
        · obtain rfl : (R m).length = j := by omega
          gi_wp2
          go_roundw
          case rel => exact ⟨m + 1, zs, by omega, by go_num, hzx, Lib.hid (by rw [HMx.out, seq_succ]), HJx, HRx⟩
          case measure => simp [intOf]; omega
    · obtain rfl : m = 17 := by omega
      gi_wp2
      go_end0
      exact ⟨⟨_, rfl⟩, .inl ⟨ys, HM.out, HJs.out⟩⟩
theorem inOrder_stops (F : Fence) (n : Nat) (h7 : F.fn 130) (hro : F.round = none) (hn : 1 ≤ n) (X g B : Nat) (U : Nat → Prop) (fs : Nat → Int) (vs : Nat → Value) (wv : Value) (ev : Int) (R : Nat → List Nat)
    (hfs : ∀ n, n < 17 → fs n = (fst R n : Nat)) (hsm : ∀ n, n < 17 → fst R n + (R n).length ≤ 1000000) (hT : ∀ k, Tr vs k → ¬ U k)
    (w : World) (hx : w.cell? ⟨X, 0, none⟩ = some (.pointer (some ⟨g, 0, none⟩))) (hXl : X < w.heap.size) (hg : w.heap[g]? = some (.cells (bkCells fs vs wv ev) 170 (0, 0))) (hrows : Rows w B vs R) (hU : ∀ k, U k → k < w.heap.size) :
    SeqStopsK F n Tryz.prog 130 #[.pointer (some ⟨X, 0, none⟩)] (Em.encs (R := R)) (Kc U) (fun ys => ys.map Em.x = seq R 17) (fun pre => ∃ t, seq R 17 = pre.map Em.x ++ t) (seq R 17).length w := fun y J Jx W hW hJ _ hY h0 => by
  refine inOrder1_in F n h7 hro hn y X g B U fs vs wv ev R hfs hsm hT J Jx hY W ?_ ?_ (hrows.mono hW) h0 (fun k hk => Nat.lt_of_lt_of_le (hU k hk) hW.size) (fun xs A C h g' => hJ xs A C none h g' (fun r e => by cases e))
  · exact (hW.cell (p := ⟨X, 0, none⟩) hXl).trans hx
  · exact (hW.block g (Array.getElem?_eq_some_iff.1 hg).1).trans hg
set_option maxRecDepth 100000 in
theorem inOrder1_nil (F : Fence) (n : Nat) (h7 : F.fn 130) (hro : F.round = none) (y X : Nat) (J : Prop) (W : World) (hx : W.cell? ⟨X, 0, none⟩ = some (.pointer none)) (h0 : J) :
    CallsIn F n Tryz.prog 130 #[.func (.yield y) #[] #[], .pointer (some ⟨X, 0, none⟩)] W fun e W' => (∃ v, e = .returned v) ∧ J ∧ W = W' := by
  have H0 := Lib.hid h0
  clear h0
  refine callsIn_of_wp Tryz.func130 rfl h7 ?_ hro
  simp only [Tryz.ntmps130, List.size_toArray, List.length_cons, List.length_nil, Nat.reduceAdd, Nat.reduceSub, Array.replicate_succ, Array.replicate_zero, List.push_toArray, List.append_toArray, List.nil_append, List.cons_append]
  gi_wp2
  refine bodyPost_ret (results_none rfl _ _ _) rfl ?_
  exact ⟨⟨_, rfl⟩, H0.out, rfl⟩
def noRows : Nat → List Nat := fun _ => []
theorem inOrder_stops_nil (F : Fence) (n : Nat) (h7 : F.fn 130) (hro : F.round = none) (X : Nat) (U : Nat → Prop) (w : World) (hx : w.cell? ⟨X, 0, none⟩ = some (.pointer none)) (hXl : X < w.heap.size) :
    SeqStopsK F n Tryz.prog 130 #[.pointer (some ⟨X, 0, none⟩)] (Em.encs (R := noRows)) (Kc U) (fun ys => ys = []) (fun _ => True) 0 w := fun y J Jx W hW hJ _ hY h0 => by
  refine (inOrder1_nil F n h7 hro y X (J [] W) W ((hW.cell (p := ⟨X, 0, none⟩) hXl).trans hx) h0).mono ?_
  rintro e W' ⟨he, hj, rfl⟩
  exact ⟨he, .inl ⟨[], rfl, hj⟩⟩
theorem inOrder_in (F : Fence) (n : Nat) (h5 : F.fn 125) (hro : F.round = none) (p : Value) (w : World) (hp : p = .pointer none ∨ ∃ g, p = .pointer (some ⟨g, 0, none⟩)) :
    CallsIn F n Tryz.prog 125 #[p] w fun e w' => e = .returned (.func (.func 130) #[] #[.pointer (some ⟨w.heap.size, 0, none⟩)]) ∧ w' = w.alloc (.cells #[p] 81) := by
  refine callsIn_of_wp Tryz.func125 rfl h5 ?_ hro
  simp only [Tryz.ntmps125, List.size_toArray, List.length_cons, List.length_nil, Nat.reduceAdd, Nat.reduceSub, Array.replicate_succ, Array.replicate_zero, List.push_toArray, List.append_toArray, List.nil_append, List.cons_append]
  rcases hp with rfl | ⟨g, rfl⟩
  · gi_wp2
    go_ret
    exact ⟨rfl, rfl⟩
  · gi_wp2
    go_ret
    exact ⟨rfl, rfl⟩
end Bk
end Go.Proofs.YtjjbgdmalefdlaaGreatDoor
end

section
namespace Go.Proofs.YtjjbgdmalefdlaaGreatDoor
open Go.RowKit Go.Shelf
attribute [local go_sem] Oper.semAt_some
namespace Bk
theorem tyW : RowTy Tryz.prog 168 154 (.agg #[.int .i64 0, .int .i64 0]) 2 16 := ⟨Tryz.underlying168, by kernel_rfl, rfl, by omega⟩
def wsOf (xs : List It) (n : Nat) : List (Nat × Nat) := (List.range n).map (look xs)
def NewBookPost (w : World) (l : List Int) (ord : List Nat) (e : Ending) (w' : World) : Prop :=
  ∃ (g : Nat) (fs : Nat → Int) (vs : Nat → Value) (wv : Value), e = .returned (.pointer (some ⟨g, 0, none⟩)) ∧ (∀ n, n < 17 → fs n = (fst (rowsOf l ord) n : Nat)) ∧ NB w' w.heap.size g fs vs wv (nx (rowsOf l ord) 17) (rowsOf l ord) (wsOf (seq (rowsOf l ord) 17) l.length) ∧ Below w.heap.size w w'
theorem fst_int (R : Nat → List Nat) (m : Nat) : ((fst R m : Nat) : Int) = ((nx R m : Nat) : Int) * 2 := by
  have : fst R m = 2 * nx R m := rfl
  omega
theorem wsOf_length (xs : List It) (n : Nat) : (wsOf xs n).length = n := by simp [wsOf]
theorem wsOf_nil (n : Nat) : wsOf [] n = List.replicate n (0, 0) := by
  rw [List.eq_replicate_iff]
  refine ⟨wsOf_length _ _, fun b hb => ?_⟩
  simp only [wsOf, List.mem_map] at hb
  obtain ⟨i, _, rfl⟩ := hb
  rfl
theorem wsOf_set (xs : List It) (n : Nat) (x : It) : (wsOf xs n).set x.s (x.c, x.n) = wsOf (xs ++ [x]) n := by
  apply List.ext_getElem?
  intro i
  rw [List.getElem?_set, wsOf_length]
  by_cases hi : i < n
  · have e1 : (wsOf xs n)[i]? = some (look xs i) := by simp [wsOf, List.getElem?_range hi]
    have e2 : (wsOf (xs ++ [x]) n)[i]? = some (look (xs ++ [x]) i) := by simp [wsOf, List.getElem?_range hi]
    rw [e1, e2, look_snoc]
    by_cases h : x.s = i
    · rw [if_pos h, if_pos (by omega), if_pos h]
    · rw [if_neg h, if_neg h]
  · have e1 : (wsOf xs n)[i]? = none := by rw [List.getElem?_eq_none]; rw [wsOf_length]; omega
    have e2 : (wsOf (xs ++ [x]) n)[i]? = none := by rw [List.getElem?_eq_none]; rw [wsOf_length]; omega
    rw [e1, e2]
    split
    · rw [if_neg (by omega)]
    · rfl
theorem wvs_set (ws : List (Nat × Nat)) (i c n : Nat) : ((wvs ws).set (i * 2) (.int .i64 (c : Nat))).set (i * 2 + 1) (.int .i64 (n : Nat)) = wvs (ws.set i (c, n)) := by
  induction ws generalizing i with
  | nil => simp [wvs]
  | cons p ws ih =>
    have e : wvs (p :: ws) = .int .i64 (p.1 : Nat) :: .int .i64 (p.2 : Nat) :: wvs ws := rfl
    cases i with
    | zero => rw [e]; rfl
    | succ i =>
      rw [e, show (i + 1) * 2 = i * 2 + 2 by omega]
      simp only [List.set_cons_succ]
      rw [ih i]; rfl
theorem NB.kc {U : Nat → Prop} {w w' : World} {B g : Nat} {fs : Nat → Int} {vs : Nat → Value} {wv : Value} {e : Int} {R : Nat → List Nat} {ws : List (Nat × Nat)} (h : NB w B g fs vs wv e R ws) (c : Kc U w w') (h1 : ¬ U g) (h2 : ∀ k, wv.ownBlock = some k → ¬ U k) (h3 : ∀ k, Tr vs k → ¬ U k) : NB w' B g fs vs wv e R ws :=
  ⟨c g _ h.blk rfl h1, h.rows.kept c h3, own_kc h.words c h2, h.hg, h.dj, h.ne, h.wne, h.wdj⟩
/-- A symbol's code is written. -/
theorem NB.word {w : World} {B g wb wc : Nat} {fs : Nat → Int} {vs : Nat → Value} {e : Int} {R : Nat → List Nat} {ws : List (Nat × Nat)} {len : Nat} (h : NB w B g fs vs (.slice (some ⟨wb, 0, none⟩) len wc) e R ws) (hl : ws.length = len) (i c n : Nat) :
    NB ((w.setCell ⟨wb, i * 2, none⟩ (.int .i64 (c : Nat))).setCell ⟨wb, i * 2 + 1, none⟩ (.int .i64 (n : Nat))) B g fs vs (.slice (some ⟨wb, 0, none⟩) len wc) e R (ws.set i (c, n)) := by
  have c1 := ch_set w wb (i * 2) (.int .i64 (c : Nat))
  have c2 := ch_set (w.setCell ⟨wb, i * 2, none⟩ (.int .i64 (c : Nat))) wb (i * 2 + 1) (.int .i64 (n : Nat))
  have cc := c1.trans c2 (fun k hk => .inl hk)
  have hwg : wb ≠ g := fun e => h.wne (by rw [e]; rfl)
  refine ⟨by rw [cc.block g h.lt (fun e => hwg e.symm)]; exact h.blk, fun m hm => cc.own (h.rows m hm) (fun k hk e => h.wdj m hm k hk (by rw [e]; rfl)), ?_, h.hg, h.dj, h.ne, h.wne, h.wdj⟩
  have h1 := h.words
  subst hl
  have h2 := (h1.stored (i * 2) (.int .i64 (c : Nat))).1
  have h3 := (h2.stored (i * 2 + 1) (.int .i64 (n : Nat))).1
  rw [wvs_set] at h3
  rw [List.length_set]; exact h3
theorem NB.wcell {w : World} {B g wb wc : Nat} {fs : Nat → Int} {vs : Nat → Value} {e : Int} {R : Nat → List Nat} {ws : List (Nat × Nat)} {len : Nat} (h : NB w B g fs vs (.slice (some ⟨wb, 0, none⟩) len wc) e R ws) (hl : ws.length = len) :
    ∃ C, w.heap[wb]? = some (.cells C 154 (0, 0)) ∧ len * 2 ≤ C.size := by
  have h1 := h.words
  subst hl
  rcases h1.2 with ⟨h2, _⟩ | ⟨g2, cap, cur, h2, _, hg, hle, _, hsz, _⟩
  · simp at h2
  · simp only [Value.slice.injEq, Option.some.injEq, Addr.mk.injEq, and_true, true_and] at h2
    obtain ⟨rfl, rfl⟩ := h2
    exact ⟨cur, hg, by omega⟩
theorem seq_sym (l : List Int) (ord : List Nat) (n : Nat) (hs : ∀ s ∈ ord, s < n) (x : It) (hx : x ∈ seq (rowsOf l ord) 17) : x.s < n := by
  obtain ⟨m, i, _, hi, rfl⟩ := (mem_seq _ _ _).1 hx
  have : (rowsOf l ord m).getD i 0 ∈ rowsOf l ord m := by simp [List.getD, List.getElem?_eq_getElem hi]
  exact hs _ (rowsOf_mem l ord m _ this).1
theorem drew_is (w : World) : Below w.heap.size w w.drew := ⟨rfl, rfl, rfl, Nat.le_refl _, fun _ _ => rfl⟩
theorem kc_set2 (W : World) (wb a b : Nat) (v1 v2 : Value) (U : Nat → Prop) (h : U wb) : Kc U W (((W.setCell ⟨wb, a, none⟩ v1).setCell ⟨wb, b, none⟩ v2).drew) :=
  Kc.drew (Kc.trans (Kc.set W ⟨wb, a, none⟩ h v1) (Kc.set (W.setCell ⟨wb, a, none⟩ v1) ⟨wb, b, none⟩ h v2))
theorem bk_zero (wv : Value) : (#[.int .i64 0, .slice none 0 0, .int .i64 0, .slice none 0 0, .int .i64 0, .slice none 0 0, .int .i64 0, .slice none 0 0, .int .i64 0, .slice none 0 0, .int .i64 0, .slice none 0 0, .int .i64 0, .slice none 0 0,
    .int .i64 0, .slice none 0 0, .int .i64 0, .slice none 0 0, .int .i64 0, .slice none 0 0, .int .i64 0, .slice none 0 0, .int .i64 0, .slice none 0 0, .int .i64 0, .slice none 0 0, .int .i64 0, .slice none 0 0, .int .i64 0, .slice none 0 0,
    .int .i64 0, .slice none 0 0, .int .i64 0, .slice none 0 0, wv, .int .i64 0] : Array Value) = bkCells (fun _ => 0) (fun _ => .slice none 0 0) wv 0 := rfl
set_option maxRecDepth 100000 in
set_option maxHeartbeats 4000000 in
theorem newBook_any (a : Option Addr) (len cap : Nat) (ord : List Nat) (b : Option Addr) (len2 cap2 : Nat) (l : List Int) (w : World) (h : Is .i64 w a len cap (sy ord)) (h2 : Is .i64 w b len2 cap2 l) (hl : len ≤ 1000000) (hl2 : len2 ≤ 1000000)
    (hs : ∀ s ∈ ord, s < len2) (hz : ∀ k, k < len2 → 0 ≤ l.getD k 0 ∧ l.getD k 0 ≤ 16) (hG : Good (rowsOf l ord)) :
    Calls Tryz.prog 115 #[.slice a len cap, .slice b len2 cap2] w (NewBookPost w l ord) := by
  have HL := Lib.hid (show ord.length = len by have := h.hlen; rwa [sy_length] at this)
  have HL2 := Lib.hid h2.hlen
  have H := Lib.hid h
  have H2 := Lib.hid h2
  have HS := Lib.hid hs
  have HZ := Lib.hid hz
  clear h h2 hs hz
  refine (callsIn_wide (n := 3)).1 ?_
  have hro : (Fence.wide).round = none := rfl
  refine callsIn_of_wp_marks Tryz.func115 rfl trivial ?_ hro
  simp only [Tryz.ntmps115, List.size_toArray, List.length_cons, List.length_nil, Nat.reduceAdd, Nat.reduceSub, Array.replicate_succ, Array.replicate_zero, List.push_toArray, List.append_toArray, List.nil_append, List.cons_append]
  gi_wp2_with (gi_at_make; refine wplIn_make_full tyW rfl _ _ rfl w.heap.size .i64 .i64 _ _ len2 rfl rfl rfl rfl (by omega) (by omega) (Nat.le_refl _) ?_)
  intro w1 own1 hg1
  have hb1 : Below w.heap.size w w1 := (Below.refl _ _).grown hg1 (Nat.le_refl _) (by simp)
  have hz1 := hb1.size
  have hz1' : w.heap.size < w1.heap.size := (own1.lt _ rfl).2
  rw [made_words] at own1
  gi_wp2
  rw [bk_zero]
  obtain ⟨w3, hw3⟩ : ∃ w3, w3 = (w1.alloc (.cells (bkCells (fun _ => 0) (fun _ => .slice none 0 0) (.slice (some ⟨w.heap.size, 0, none⟩) len2 len2) 0) 170)).alloc (.cells #[Value.pointer (some ⟨w1.heap.size, 0, none⟩)] 81) := ⟨_, rfl⟩
  rw [← hw3]
  have hb3 : Below w.heap.size w w3 := by rw [hw3]; exact (hb1.alloc hz1 _).alloc (by simp; omega) _
  have hnb3 : NB w3 w.heap.size w1.heap.size (fun _ => 0) (fun _ => .slice none 0 0) (.slice (some ⟨w.heap.size, 0, none⟩) len2 len2) 0 (rowsOf l []) (List.replicate len2 (0, 0)) := by
    subst hw3
    refine ⟨heap_alloc2_old _ _ _, fun n hn => ?_, ?_, hz1, fun n m _ _ _ k hk => by simp [Value.ownBlock] at hk, fun n _ => by simp [Value.ownBlock], fun e => by simp [Value.ownBlock] at e; omega, fun n _ k hk => by simp [Value.ownBlock] at hk⟩
    · have : rowsOf l [] n = [] := by unfold rowsOf; split <;> rfl
      rw [this]; exact World.ownsRow_nil _ _ _ _
    · rw [List.length_replicate]; exact (own1.alloc _).alloc _
  have hbox3 : Boxed w3 (w1.heap.size + 1) 81 (.pointer (some ⟨w1.heap.size, 0, none⟩)) := by rw [hw3]; exact heap_alloc2_new _ _ _
  clear hw3 own1 hg1 hb1
  generalize hX : w1.heap.size + 1 = X at *
  generalize w1.heap.size = g at *
  generalize Value.agg (bkCells (fun _ => 0) (fun _ => .slice none 0 0) (.slice (some ⟨w.heap.size, 0, none⟩) len2 len2) 0) = u18
  generalize Value.slice (some ⟨w.heap.size, 0, none⟩) len2 len2 = wv at *
  have HXG := Lib.hid (show X ≠ g by omega)
  have HXB := Lib.hid (show w.heap.size ≤ X by omega)
  have H3 := Lib.hid hnb3
  have HB3 := Lib.hid hb3
  have HX3 := Lib.hid hbox3
  clear hnb3 hb3 hbox3 hX hz1 hz1'
  gi_loopw [22] (fun i wr => ∃ (k : Nat) (vs : Nat → Value), k ≤ len ∧ i = .int .i64 k ∧ Hid (NB wr w.heap.size g (fun _ => 0) vs wv 0 (rowsOf l (ord.take k)) (List.replicate len2 (0, 0))) ∧ Hid (Below w.heap.size w wr) ∧ Hid (Boxed wr X 81 (.pointer (some ⟨g, 0, none⟩))) ∧ Hid (∀ n, n < 17 → (vs n).ownBlock ≠ some X))
    (fun i _ => len - (intOf i).toNat)
  case atStart => exact ⟨0, _, by omega, rfl, H3, HB3, HX3, Lib.hid (fun n _ => by simp [Value.ownBlock])⟩
  case round =>
    obtain ⟨k, vs, hk, rfl, HN, HB, HX, HV⟩ := hrel
    by_cases hlt : k < len
    · obtain ⟨rb, ro, rfl, _, c1⟩ := (H.out.mono HB.out).at' k hlt
      rw [sy_getD] at c1
      have hkl : k < ord.length := by rw [HL.out]; exact hlt
      have ht : ord.take (k + 1) = ord.take k ++ [ord.getD k 0] := by rw [List.take_succ_eq_append_getElem hkl]; simp [List.getD, List.getElem?_eq_getElem hkl]
      have hsl : ord.getD k 0 < len2 := HS.out _ (by simp [List.getD, List.getElem?_eq_getElem hkl])
      have HT := Lib.hid ht
      clear ht hkl
      generalize ord.getD k 0 = s at *
      obtain ⟨lb, lo, rfl, _, c2⟩ := (H2.out.mono HB.out).at' s hsl
      have hzr := HZ.out s hsl
      have hcb := HX.out.cell
      by_cases h0 : l.getD s 0 = 0
      · rw [h0] at c2
        have hR := Lib.hid (rowsOf_snoc_no l (ord.take k) s h0)
        clear h0 hzr
        gi_wp2
        go_roundw
        case rel => exact ⟨k + 1, vs, by omega, by go_num, Lib.hid (by rw [HT.out, hR.out]; exact HN.out), HB, HX, HV⟩
        case measure => simp [intOf]; omega
      · obtain ⟨n, hn⟩ := Int.eq_ofNat_of_zero_le hzr.1
        rw [hn] at c2
        have hn0 : 0 < n := by omega
        have hn17 : n < 17 := by omega
        have hR := Lib.hid (rowsOf_snoc l (ord.take k) s n hn0 hn)
        have dpos : decide ((0 : Int) < (n : Int)) = true := by simp; omega
        clear h0 hzr hn
        have hown := HN.out.rows n hn17
        have hle := rowsOf_le l (ord.take k) n
        rw [List.length_take] at hle
        have cv : wr.cell? ⟨g, n * 2 + 1, none⟩ = some (vs n) := by rw [Nat.mul_comm]; exact HN.out.cV n hn17
        have HNa := Lib.hid (HN.out.mono (below_alloc wr (.cells #[Value.int .i64 (s : Nat)] 3)))
        have hba : w.heap.size ≤ (wr.alloc (.cells #[Value.int .i64 (s : Nat)] 3)).heap.size := by have := HB.out.size; simp; omega
        have hsrc := src_int wr (s : Nat)
        have HBa := Lib.hid (HB.out.alloc HB.out.size (.cells #[Value.int .i64 (s : Nat)] 3))
        have HXa := Lib.hid (HX.out.alloc (.cells #[Value.int .i64 (s : Nat)] 3))
        gi_wp2_with (gi_at_builtin; refine wplIn_app tyI rfl _ _ rfl (HNa.out.rows n hn17) hsrc rfl rfl (by omega) (by omega) (by omega) hba ?_)
        intro v4 w4 own4 c4 f4
        rw [← ivs_append] at own4
        have own5 : w4.ownsRow w.heap.size 3 1 v4 ((rowsOf l (ord.take k) n).length + 1) (ivs (sy (rowsOf l (ord.take k) n ++ [s]))) := by rw [sy_append]; exact own4
        obtain ⟨g4, cap4, rfl⟩ := ownsRow_succ own4
        have HN5 := Lib.hid (HNa.out.push n hn17 s _ own5 c4 (by simpa using f4))
        have hb4 : Below w.heap.size w w4 := HBa.out.trans (c4.below hba (fun k hk => ((HNa.out.rows n hn17).lt k hk).1))
        have HB5 := Lib.hid (hb4.setCell (p := ⟨g, n * 2 + 1, none⟩) (by show w.heap.size ≤ g; exact HN.out.hg) (.slice (some ⟨g4, 0, none⟩) ((rowsOf l (ord.take k) n).length + 1) cap4))
        have hbx : Boxed w4 X 81 (.pointer (some ⟨g, 0, none⟩)) := (c4.block X HXa.out.lt (HV.out n hn17)).trans HXa.out
        have HX5 := Lib.hid (boxed_setO hbx HXG.out (n * 2 + 1) (.slice (some ⟨g4, 0, none⟩) ((rowsOf l (ord.take k) n).length + 1) cap4))
        have c5 : w4.cell? ⟨g, n * 2 + 1, none⟩ = some (vs n) := by
          rw [← cv]
          exact World.cell?_of_block (w := wr) (by rw [c4.block g HNa.out.lt (HN.out.ne n hn17)]; exact Below.heap_alloc wr _ g HN.out.lt)
        have f5 : w4.frozen? ⟨g, n * 2 + 1, none⟩ = false := by
          refine frozen_of_row w4 g _ (bkCells (fun _ => 0) vs wv 0) 170 ?_
          rw [c4.block g HNa.out.lt (HN.out.ne n hn17)]; exact HNa.out.blk
        have HV5 : Hid (∀ m, m < 17 → (upd vs n (Value.slice (some ⟨g4, 0, none⟩) ((rowsOf l (ord.take k) n).length + 1) cap4) m).ownBlock ≠ some X) := Lib.hid (fun m hm => by
          by_cases hmn : m = n
          · subst hmn
            rw [upd_same]
            intro e
            rcases f4 X e with h1 | h1
            · exact HV.out m hm h1
            · have := HX.out.lt; omega
          · rw [upd_other _ _ _ _ hmn]; exact HV.out m hm)
        rw [← hR.out, ← HT.out, Nat.mul_comm 2 n] at HN5
        clear own4 own5 c4 f4 hsrc HNa HBa HXa hba hb4 hbx cv hown
        gi_wp2
        go_roundw
        case rel => exact ⟨k + 1, _, by omega, by go_num, HN5, HB5, HX5, HV5⟩
        case measure => simp [intOf]; omega
    · obtain rfl : len = k := by omega
      rw [List.take_of_length_le (by rw [HL.out]; exact Nat.le_refl _)] at HN
      have hRl := fun n => rowsOf_le l ord n
      have HSO := HS
      clear H2 HZ H3 HB3 HX3
      generalize hRR : rowsOf l ord = R at *
      have HRR := Lib.hid hRR
      clear hRR
      gi_wp2
      gi_loopw [10, 48] (fun nxv i wr => ∃ (m : Nat) (fs : Nat → Int), m ≤ 17 ∧ i = .int .i64 m ∧ nxv = .int .i64 (nx R m : Nat) ∧ Hid (∀ n, n < m → fs n = (fst R n : Nat)) ∧ Hid (NB wr w.heap.size g fs vs wv 0 R (List.replicate len2 (0, 0))) ∧ Hid (Below w.heap.size w wr) ∧ Hid (Boxed wr X 81 (.pointer (some ⟨g, 0, none⟩))))
        (fun _ i _ => 17 - (intOf i).toNat)
      case atStart => exact ⟨0, _, by omega, rfl, rfl, Lib.hid (fun n hn => absurd hn (by omega)), HN, HB, HX⟩
      case round =>
        obtain ⟨m, fs, hm, rfl, rfl, HF, HN2, HB2, HX2⟩ := hrel
        have hcb := HX2.out.cell
        have hnx : nx R m ≤ 65536 := by
          rcases Nat.eq_zero_or_pos m with rfl | hp
          · simp [nx]
          · have h1 := code_lt R hG (m - 1) (R (m - 1)).length (by omega) (Nat.le_refl _)
            have h2 : (2 : Nat) ^ (m - 1) ≤ 2 ^ 16 := Nat.pow_le_pow_right (by omega) (by omega)
            have h3 : nx R m = fst R (m - 1) + (R (m - 1)).length := by rw [← nx_succ]; congr 1; omega
            omega
        by_cases hlt : m < 17
        · have cv : wr.cell? ⟨g, m * 2 + 1, none⟩ = some (vs m) := by rw [Nat.mul_comm]; exact HN2.out.cV m hlt
          have cf : wr.cell? ⟨g, m * 2, none⟩ = some (.int .i64 (fs m)) := by rw [Nat.mul_comm]; exact HN2.out.cF m hlt
          have ff := HN2.out.fr (m * 2)
          have HFn := Lib.hid (fst_int R m)
          have HNn := Lib.hid (show nx R (m + 1) = 2 * nx R m + (R m).length from rfl)
          have hrl := hRl m
          rw [HL.out] at hrl
          obtain ⟨ra, rc, hv⟩ : ∃ ra rc, vs m = .slice ra (R m).length rc := by
            rcases own_nil_or (HN2.out.rows m hlt) with ⟨h1, h2⟩ | ⟨rb, rc, h1, _⟩
            · exact ⟨none, 0, by rw [h1, h2]⟩
            · exact ⟨_, rc, h1⟩
          rw [hv] at cv
          have HS3 := Lib.hid (HN2.out.setF m hlt (fst R m : Nat))
          have HB3 := Lib.hid (HB2.out.setCell (p := ⟨g, m * 2, none⟩) (by show w.heap.size ≤ g; exact HN2.out.hg) (.int .i64 (fst R m : Nat)))
          have HX3 := Lib.hid (boxed_setO HX2.out HXG.out (m * 2) (.int .i64 (fst R m : Nat)))
          have HF3 : Hid (∀ n, n < m + 1 → upd fs m (fst R m : Nat) n = (fst R n : Nat)) := Lib.hid (fun n hn => by
            by_cases hnm : n = m
            · subst hnm; rw [upd_same]
            · rw [upd_other _ _ _ _ hnm]; exact HF.out n (by omega))
          have cv3 : (wr.setCell ⟨g, m * 2, none⟩ (.int .i64 ((fst R m : Nat)))).cell? ⟨g, m * 2 + 1, none⟩ = some (.slice ra (R m).length rc) := by
            rw [← hv]
            have := HS3.out.cV m hlt
            rwa [Nat.mul_comm 2 m] at this
          rw [Nat.mul_comm 2 m] at HS3
          rw [HFn.out] at HS3 HB3 HX3 cv3 HF3
          clear hv
          generalize nx R m = q at *
          gi_wp2
          go_roundw
          case rel => exact ⟨m + 1, _, by omega, by go_num, int_eq (by rw [HNn.out]; omega), HF3, HS3, HB3, HX3⟩
          case measure => simp [intOf]; omega
        · obtain rfl : m = 17 := by omega
          have f35 := HN2.out.fr 35
          have c35 := HN2.out.cE
          have HN4 := Lib.hid (HN2.out.setE (nx R 17 : Nat))
          have HB4 := Lib.hid (HB2.out.setCell (p := ⟨g, 35, none⟩) (by show w.heap.size ≤ g; exact HN2.out.hg) (.int .i64 (nx R 17 : Nat)))
          have HX4 := Lib.hid (boxed_setO HX2.out HXG.out 35 (.int .i64 (nx R 17 : Nat)))
          have hcb4 := HX4.out.cell
          clear HN2 HB2 HX2 HN HB HX
          gi_wp2_with fail
          refine ⟨trivial, (inOrder_in Fence.wide 2 trivial rfl _ _ (.inr ⟨g, rfl⟩)).mono ?_⟩
          rintro e w' ⟨rfl, rfl⟩
          gi_wp2
          have hz4 : w.heap.size ≤ (wr.setCell ⟨g, 35, none⟩ (.int .i64 (nx R 17 : Nat))).heap.size := HB4.out.size
          have hXl : X < (wr.setCell ⟨g, 35, none⟩ (.int .i64 (nx R 17 : Nat))).heap.size := HX4.out.lt
          have hY : (wr.setCell ⟨g, 35, none⟩ (.int .i64 (nx R 17 : Nat))).heap.size = wr.heap.size := by simp
          rw [hY] at hz4 hXl
          obtain ⟨W4, hW4⟩ : ∃ W4, W4 = wr.setCell ⟨g, 35, none⟩ (.int .i64 (nx R 17 : Nat)) := ⟨_, rfl⟩
          rw [← hW4] at HN4 HB4 HX4 hcb4 hY ⊢
          have HN5 := Lib.hid (HN4.out.mono (below_alloc W4 (.cells #[.pointer (some ⟨g, 0, none⟩)] 81)))
          have HB5 := Lib.hid (HB4.out.alloc HB4.out.size (.cells #[.pointer (some ⟨g, 0, none⟩)] 81))
          have HX5 := Lib.hid (HX4.out.alloc (.cells #[.pointer (some ⟨g, 0, none⟩)] 81))
          have hxY : Boxed (W4.alloc (.cells #[.pointer (some ⟨g, 0, none⟩)] 81)) W4.heap.size 81 (.pointer (some ⟨g, 0, none⟩)) := Boxed.new W4 _ _
          have hz5 : (W4.alloc (.cells #[.pointer (some ⟨g, 0, none⟩)] 81)).heap.size = wr.heap.size + 1 := by rw [World.size_alloc, hY]
          rw [hY] at hxY
          clear HN4 HB4 HX4 hcb4 f35 c35
          revert HN5 HB5 HX5 hxY hz5
          generalize W4.alloc (.cells #[.pointer (some ⟨g, 0, none⟩)] 81) = W5
          intro HN5 HB5 HX5 hxY hz5
          clear hW4 hY
          generalize wr.heap.size = Y at *
          have hUb : ∀ k, wv.ownBlock = some k → k < W5.heap.size := fun k hk => (HN5.out.words.lt k hk).2
          have hstp := inOrder_stops Fence.wide 2 trivial rfl (by omega) Y g w.heap.size (fun k => wv.ownBlock = some k) fs vs wv (nx R 17 : Nat) R (fun n hn => HF.out n hn)
            (fun n hn => by have h1 := code_lt R hG n (R n).length (by omega) (Nat.le_refl _); have h2 : (2 : Nat) ^ n ≤ 2 ^ 16 := Nat.pow_le_pow_right (by omega) (by omega); omega)
            (fun k ⟨n, hn, hk⟩ he => HN5.out.wdj n hn k hk he) W5 hxY.cell hxY.lt HN5.out.blk HN5.out.rows hUb
          refine wpIn_rangeFunc_ownH rfl (by omega) (gf := 130) (lb := #[.pointer (some ⟨Y, 0, none⟩)]) rfl trivial (enters_of Tryz.func130 (by kernel_rfl) rfl)
            hstp ?hKt ?hKb (Below.refl _ _) (fun _ => rfl)
            (fun pre W => NB W w.heap.size g fs vs wv (nx R 17 : Nat) R (wsOf (pre.map Em.x) len2) ∧ Below w.heap.size w W ∧ Boxed W X 81 (.pointer (some ⟨g, 0, none⟩)) ∧ W5.heap.size ≤ W.heap.size)
            (fun _ _ _ => False) ?hI (fun _ _ _ _ _ hs _ _ => hs) ?h0
            (fun x a' W => ∃ Bx, W5.heap.size ≤ Bx ∧ W.heap[Bx]? = some (.cells #[.int .i64 (x.x.c : Nat), .int .i64 (x.x.n : Nat)] 154 (0, 0)) ∧ a' = { tmps := #[.slice a len cap, .slice b len2 cap2, undef, undef, .pointer none, .pointer (some ⟨X, 0, none⟩), undef, u7, u8, u9, .int .i64 (nx R 17 : Nat), u11, u12, .int .i64 (x.x.s : Nat), .pointer (some ⟨Bx, 0, none⟩), .slice b len2 cap2, .int .i64 len2, wv, u18,
              .pointer (some ⟨g, 0, none⟩), .slice a len cap, .int .i64 len, .int .i64 len, .bool false, u24, u25, u26, u27, u28, u29, u30, u31, u32, u33, u34, u35, u36, u37, u38, u39, u40, u41, u42, u43, u44, u45, u46, u47, .int .i64 17, .bool false, u50, u51, u52, u53, u54, u55, u56, u57, u58, u59, u60, u61, u62, u63, u64, u65, u66, u67, u68, u69,
              .pointer (some ⟨g, 0, none⟩), .int .i64 (nx R 17 : Nat), .pointer (some ⟨g, 0, none⟩), .pointer (some ⟨g, 35, none⟩), .pointer (some ⟨g, 0, none⟩), .func (.func 130) #[] #[.pointer (some ⟨Y, 0, none⟩)],
              .int .i64 (x.x.s : Nat), .agg #[.int .i64 (x.x.c : Nat), .int .i64 (x.x.n : Nat)], undef, undef, undef, undef, undef, undef, undef, undef], defers := [] })
            ?hAx ?assign ?body ?done ?stop
          case hKt => exact fun h1 h2 => h1.trans h2
          case hKb => exact fun W l o o' _ hl hc _ => Kc.put W l o o' hl hc
          case hI =>
            rintro s A C row ⟨h1, h2, h3, h4⟩ hg hr
            have c := kc_cells hg (fun r e => (hr r e).2)
            exact ⟨h1.kc c (fun h => h) (fun _ _ h => h) (fun _ _ h => h), h2.grown hg h2.size (fun r e => by have := (hr r e).1; have := HB5.out.size; omega), c X _ h3 rfl (fun h => h), Nat.le_trans h4 hg.size⟩
          case h0 => exact ⟨by rw [List.map_nil, wsOf_nil]; exact HN5.out, HB5.out, HX5.out, Nat.le_refl _⟩
          case hAx =>
            rintro x a' s A C row ⟨Bx, h1, h2, h3⟩ hg hr
            exact ⟨Bx, h1, kc_cells hg (fun r e => (hr r e).2) Bx _ h2 rfl (fun h => h), h3⟩
          case assign =>
            rintro l' pre x W K ⟨h1, h2, h3, h4⟩ hK
            simp only [Em.encs]
            gi_wp2
            refine hK _ _ ((KeepsOthers.alloc _ _).from _) (Kc.alloc _ _ _) ⟨h1.mono (below_alloc W _), h2.alloc h2.size _, h3.alloc _, by simp; omega⟩ ⟨W.heap.size, h4, World.alloc_heap_new W _, rfl⟩
          case body =>
            rintro l' pre x a' W hl' ⟨r, hr⟩ ⟨h1, h2, h3, h4⟩ ⟨Bx, hBx, hbx, rfl⟩ hlen
            have hsn : x.x.s < len2 := by
              have := x.mem
              exact seq_sym l ord len2 HSO.out x.x (by rw [HRR.out]; exact this)
            obtain ⟨wb, wc, hwv⟩ : ∃ wb wc, wv = .slice (some ⟨wb, 0, none⟩) len2 wc := by
              have := h1.words
              rw [wsOf_length] at this
              rcases own_nil_or this with ⟨_, h⟩ | ⟨wb, wc, h, _⟩
              · omega
              · exact ⟨wb, wc, h⟩
            subst hwv
            obtain ⟨C, hC, hCs⟩ := h1.wcell (wsOf_length _ _)
            have hcx := h3.cell
            have hc34 := h1.cW
            have e0 : W.cell? ⟨Bx, 0, none⟩ = some (.int .i64 (x.x.c : Nat)) := by rw [cell_of_row _ _ _ _ _ (0, 0) hbx]; rfl
            have e1 : W.cell? ⟨Bx, 1, none⟩ = some (.int .i64 (x.x.n : Nat)) := by rw [cell_of_row _ _ _ _ _ (0, 0) hbx]; rfl
            obtain ⟨z0, g0⟩ : ∃ z, W.cell? ⟨wb, x.x.s * 2, none⟩ = some z := ⟨_, by rw [cell_of_row _ _ _ _ _ (0, 0) hC]; exact Array.getElem?_eq_getElem (by omega)⟩
            obtain ⟨z1, g1⟩ : ∃ z, W.cell? ⟨wb, x.x.s * 2 + 1, none⟩ = some z := ⟨_, by rw [cell_of_row _ _ _ _ _ (0, 0) hC]; exact Array.getElem?_eq_getElem (by omega)⟩
            have f0 := frozen_of_row W wb (x.x.s * 2) _ _ hC
            have f1 := frozen_of_row W wb (x.x.s * 2 + 1) _ _ hC
            have H1 := Lib.hid h1
            have HN := Lib.hid (h1.word (wsOf_length _ _) x.x.s x.x.c x.x.n)
            rw [wsOf_set] at HN
            have HEQ : Hid (pre.map Em.x ++ [x.x] = (pre ++ [x]).map Em.x) := Lib.hid (by rw [List.map_append]; rfl)
            rw [HEQ.out] at HN
            generalize hpx : (pre ++ [x]) = px at *
            have hHB2 := Lib.hid h2
            have hHX := Lib.hid h3
            have hwbB : Hid (w.heap.size ≤ wb) := Lib.hid ((H1.out.words.lt wb rfl).1)
            have hXw : Hid (X ≠ wb) := Lib.hid (fun e => by
              obtain ⟨C', hC', _⟩ := H1.out.wcell (wsOf_length _ _)
              have h3' : W.heap[X]? = _ := h3
              rw [e, hC'] at h3'
              simp at h3')
            clear h1 hC HEQ hpx hlen h2 h3
            generalize x.x.s = xs at *
            generalize x.x.c = xc at *
            generalize x.x.n = xn at *
            have hsz : W.heap.size = ((W.setCell ⟨wb, xs * 2, none⟩ (.int .i64 (xc : Nat))).setCell ⟨wb, xs * 2 + 1, none⟩ (.int .i64 (xn : Nat))).drew.heap.size := by
              show _ = ((W.setCell ⟨wb, xs * 2, none⟩ (.int .i64 (xc : Nat))).setCell ⟨wb, xs * 2 + 1, none⟩ (.int .i64 (xn : Nat))).heap.size
              simp
            have HEND := Lib.hid (show ownPostG W5.heap.size (Kc fun k => (Value.slice (some ⟨wb, 0, none⟩) len2 wc).ownBlock = some k)
                (fun pre W => NB W w.heap.size g fs vs (.slice (some ⟨wb, 0, none⟩) len2 wc) (nx R 17 : Nat) R (wsOf (pre.map Em.x) len2) ∧ Below w.heap.size w W ∧ Boxed W X 81 (.pointer (some ⟨g, 0, none⟩)) ∧ W5.heap.size ≤ W.heap.size)
                (fun _ _ _ => False) px W .normal { tmps := #[], defers := [] } ((W.setCell ⟨wb, xs * 2, none⟩ (.int .i64 (xc : Nat))).setCell ⟨wb, xs * 2 + 1, none⟩ (.int .i64 (xn : Nat))).drew from
              ⟨((KeepsOthers.setCell W _ _).trans ((KeepsOthers.setCell _ _ _).trans (KeepsOthers.drew _))).from _, kc_set2 W wb _ _ _ _ _ rfl,
                HN.out.mono (drew_is _), ((hHB2.out.setCell (p := ⟨wb, xs * 2, none⟩) hwbB.out _).setCell (p := ⟨wb, xs * 2 + 1, none⟩) hwbB.out _).drew, boxed_setO (boxed_setO hHX.out hXw.out _ _) hXw.out _ _, by rw [← hsz]; exact h4⟩)
            clear hsz HN hHB2 hHX hwbB hXw H1 hstp h4 hbx HB5 HX5 HN5
            gi_wp2
            have hmix : Tryz.prog.follows .mixedOrders = true := by kernel_rfl
            gi_region_with_o (fail)
            all_goals gi_wp2
            all_goals exact HEND.out
          case done =>
            rintro D ys W hD hS ⟨h1, h2, h3, h4⟩ hK
            have hcx := h3.cell
            have HP : Hid (NewBookPost w l ord (.returned (.pointer (some ⟨g, 0, none⟩))) (W.putObj D (.deferred none))) := Lib.hid (by
              have c := Kc.put (U := fun _ => False) W D _ (.deferred none) hK rfl
              refine ⟨g, fs, vs, wv, rfl, fun n hn => ?_, ?_, h2.grown (grownBy_putObj' W D (.deferred none)) h2.size (fun r e => by cases e; have := HB5.out.size; omega)⟩
              · rw [HRR.out]; exact HF.out n hn
              · have := h1.kc c (fun h => h) (fun _ _ h => h) (fun _ _ h => h)
                rw [hS] at this
                rw [HRR.out, HL2.out]; exact this)
            clear h1 h2 hstp HN5 HB5 HX5
            gi_wp2
            refine ⟨by simp, .inl ⟨_, _, rfl, run_takeDeferred hK, ?_⟩⟩
            exact ⟨_, results_tmp rfl _ _ _, by exact HP.out⟩
          case stop =>
            rintro D c pre W _ _ h _
            exact h.elim
end Bk
end Go.Proofs.YtjjbgdmalefdlaaGreatDoor
end
