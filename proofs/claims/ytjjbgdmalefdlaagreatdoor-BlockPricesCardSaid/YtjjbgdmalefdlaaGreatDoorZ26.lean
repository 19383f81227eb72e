/- slices.Repeat of one run, any number of times: its contract. block.stretch: its contract. Made by gen_blkstretch.py. -/
import Derived.Test.YtjjbgdmalefdlaaGreatDoorZ8
import Derived.Test.YtjjbgdmalefdlaaGreatDoorZ13
import Derived.Test.YtjjbgdmalefdlaaGreatDoorZ14
import Derived.Test.YtjjbgdmalefdlaaGreatDoorZ17
import Derived.Laws.CopyOwn
import Derived.Deep.QuietTactic
import Derived.Deep.RegionLaw
import Derived.BigQuiet
set_option linter.unusedSimpArgs false
set_option linter.unusedVariables false
section
namespace Go.Proofs.YtjjbgdmalefdlaaGreatDoor
open Go.RowKit
set_option linter.unusedSimpArgs false

theorem u64_and32 (c : Nat) (h : c < 4294967296) : bits .and .u64 (c : Int) 4294967295 = (c : Int) := by
  have h2 := bits_mask .u64 64 (by decide) (fun n h0 h1 => by simp only [IntKind.wrap, IntKind.signed, IntKind.bits]; first | omega | (simp; omega)) 32 (by decide) (c : Int) (by omega) (by omega)
  simp only [Int.reducePow, Int.reduceSub] at h2
  rw [h2]; omega
theorem mul64_one (c : Nat) (hc : c < 4294967296) (w : World) : Calls Tryz.prog 111 #[.int .u64 1, .int .u64 (c : Nat)] w fun e w' => e = .returned (.tuple #[.int .u64 0, .int .u64 (c : Nat)]) ∧ w = w' := by
  have ha := u64_and32 c hc
  have h1 : bits .and .u64 1 4294967295 = 1 := by decide +kernel
  have h0 : bits .and .u64 0 4294967295 = 0 := by decide +kernel
  have hd : (c : Int) / 4294967296 = 0 := by omega
  have hw : IntKind.u64.wrap (c : Int) = (c : Int) := by simp only [IntKind.wrap, IntKind.signed, IntKind.bits]; first | omega | (simp; omega)
  have hw0 : IntKind.u64.wrap 0 = 0 := by decide +kernel
  have h64 : Calls Tryz.prog 118 #[.int .u64 1, .int .u64 (c : Nat)] w fun e w' => e = .returned (.tuple #[.int .u64 0, .int .u64 (c : Nat)]) ∧ w = w' := by
    go_enter Tryz.func118, Tryz.ntmps118
    go_wp2
    go_ret2
    exact ⟨rfl, rfl⟩
  go_enter Tryz.func111, Tryz.ntmps111
  go_wp2_with fail
  refine h64.mono ?_
  rintro e w' ⟨rfl, rfl⟩
  go_wp2
  go_ret2
  exact ⟨rfl, rfl⟩
section
variable {P : Program} {w : World} {ops : Array Oper} {o : Oper} {a : Act} {Q : Exit → Act → World → Prop} {K : Act → World → Prop} {E : Prop}
/-- copy of elements of two cells. -/
theorem run_copy_row2 (w : World) (dT sT ty elem : TypeId) (g o dLen dCap : Nat) (a : Addr) (sLen sCap : Nat) (cur : Array Value) (t : TypeId) (cs : List Value) (m : Nat)
    (hu : P.underlying dT = some (.slice elem)) (hs : (P.info? elem).map (·.size) = some 2)
    (hg : w.heap[g]? = some (.cells cur t (0, 0))) (hm : Nat.min sLen dLen = m) (hn : cs.length = m * 2)
    (hsrc : ∀ j v, cs[j]? = some v → w.cell? (a.add j) = some v) (hfit : o + cs.length ≤ cur.size) (h1 : ∀ v ∈ cs, v.oneCell' = true) :
    (Builtin.copy_ #[dT, sT] ty #[.slice (some ⟨g, o, none⟩) dLen dCap, .slice (some a) sLen sCap]).run P w =
      .ok (goInt m) (w.setRow g (cur.toList.take o ++ cs ++ cur.toList.drop (o + cs.length)).toArray) := by
  have hl := run_loadCells_list (P := P) w a cs hsrc
  have hst := run_storeCells_at P g o t cs 0 cur w hg (by simpa using hfit) h1
  rw [hn] at hl
  cases hq : P.info? elem with
  | none => simp [hq] at hs
  | some i =>
    have hi : i.size = 2 := by simpa [hq] using hs
    simp [Builtin.copy_, run_underlying hu, Builtin.lenOf, Builtin.firstCells, sizeOf, typeInfo, hq, hi, hm, hl, hst]
theorem run_copy_none2 (w : World) (dT sT ty elem : TypeId) (d a : Option Addr) (dLen dCap sLen sCap : Nat) (hu : P.underlying dT = some (.slice elem)) (hs : (P.info? elem).map (·.size) = some 2) (hn : Nat.min sLen dLen = 0) :
    (Builtin.copy_ #[dT, sT] ty #[.slice d dLen dCap, .slice a sLen sCap]).run P w = .ok (goInt 0) w := by
  cases hq : P.info? elem with
  | none => simp [hq] at hs
  | some i =>
    have hl : ∀ (x : Addr), (loadCells x 0).run P w = .ok #[] w := fun x => by simpa using run_loadCells_list (P := P) w x [] (by simp)
    cases d <;> cases a <;> simp [Builtin.copy_, run_underlying hu, Builtin.lenOf, Builtin.firstCells, sizeOf, typeInfo, hq, hn, storeCells, hl]
/-- The same, as one step of a region that draws. -/
theorem step_copy2 (hg : o.guard = none) (d s : Operand) (dT sT : TypeId) (ho : o.op = .call { callee := .builtin .copy, args := #[d, s], argTypes := #[dT, sT] }) (elem : TypeId) (hu : P.underlying dT = some (.slice elem)) (hsz : (P.info? elem).map (·.size) = some 2)
    (g off dLen dCap : Nat) (ad : Addr) (sLen sCap : Nat) (hd : a.eval d = .slice (some ⟨g, off, none⟩) dLen dCap) (hs : a.eval s = .slice (some ad) sLen sCap)
    (cur : Array Value) (t : TypeId) (hrow : w.heap[g]? = some (.cells cur t (0, 0))) (cs : List Value) (m : Nat) (hm : Nat.min sLen dLen = m) (hn : cs.length = m * 2)
    (hsrc : ∀ j v, cs[j]? = some v → w.cell? (ad.add j) = some v) (hfit : off + cs.length ≤ cur.size) (h1 : ∀ v ∈ cs, v.oneCell' = true)
    (hK : K (a.put o.dst (goInt m)) (w.setRow g (cur.toList.take off ++ cs ++ cur.toList.drop (off + cs.length)).toArray)) :
    if Region.wanted o (yielded ops a.tmps) = true then Oper.wp P o a w K Q else E := by
  have hw : Region.wanted o (yielded ops a.tmps) = true := by simp [Region.wanted, hg]
  rw [if_pos hw]
  have hrun := run_copy_row2 (P := P) w dT sT o.type elem g off dLen dCap ad sLen sCap cur t cs m hu hsz hrow hm hn hsrc hfit h1
  unfold Oper.wp
  simp [execOp, ho, resolve, invoke, builtin, hd, hs, hrun, Result.andThen]
  rw [List.append_assoc] at hK
  have hU : ∀ r : Result Next, r = Result.ok (Next.value (goInt m)) (w.setRow g (cur.toList.take off ++ (cs ++ cur.toList.drop (off + cs.length))).toArray) → Oper.upon P o a K Q r := fun r hr => by
    subst hr
    simp only [Oper.upon]
    exact hK
  first | exact hK | (refine hU _ ?_; simp) | simpa using hU _ rfl
end
theorem tks_take (l : List Tok) (k : Nat) : (tks l).take (k * 2) = tks (l.take k) := by
  induction l generalizing k with
  | nil => simp [tks]
  | cons a r ih =>
    cases k with
    | zero => simp [tks]
    | succ k =>
      have e1 : (k + 1) * 2 = k * 2 + 1 + 1 := by omega
      have e2 : tks (a :: r) = .int .i64 a.1 :: .int .i64 a.2 :: tks r := rfl
      have e3 : tks (a :: r.take k) = .int .i64 a.1 :: .int .i64 a.2 :: tks (r.take k) := rfl
      rw [e1, e2, List.take_succ_cons, List.take_succ_cons, ih k, List.take_succ_cons, e3]
theorem tks_drop (l : List Tok) (k : Nat) : (tks l).drop (k * 2) = tks (l.drop k) := by
  induction l generalizing k with
  | nil => simp [tks]
  | cons a r ih =>
    cases k with
    | zero => simp
    | succ k =>
      have e1 : (k + 1) * 2 = k * 2 + 1 + 1 := by omega
      have e2 : tks (a :: r) = .int .i64 a.1 :: .int .i64 a.2 :: tks r := rfl
      rw [e1, e2, List.drop_succ_cons, List.drop_succ_cons, ih k, List.drop_succ_cons]
theorem tks_zeros (n : Nat) : tks (List.replicate n (0, 0)) = List.replicate (n * 2) (.int .i64 0) := by
  rw [List.eq_replicate_iff]
  refine ⟨by rw [tks_length, List.length_replicate], fun b hb => ?_⟩
  simp only [tks, List.mem_flatMap, List.mem_replicate] at hb
  obtain ⟨o, ⟨_, rfl⟩, ho⟩ := hb
  simp at ho
  exact ho
theorem made_toks (n : Nat) : (madeCells #[.int .i64 0, .int .i64 0] (n * 2)).toList = tks (List.replicate n (0, 0)) := by
  rw [made_all _ _ (.int .i64 0) (by simp) (fun i hi => by
    match i, hi with
    | 0, _ => rfl
    | 1, _ => rfl), tks_zeros]
def RrPost (w : World) (c : Tok) (n : Nat) (e : Ending) (w' : World) : Prop := ∃ v, e = .returned v ∧ w'.ownsRow w.heap.size 132 2 v n (tks (List.replicate n c)) ∧ Below w.heap.size w w'
/-- What has been filled of a new row. -/
structure RrX (w wr : World) (c : Tok) (n k : Nat) : Prop where
  row : wr.heap[w.heap.size]? = some (.cells (tks (List.replicate k c ++ List.replicate (n - k) (0, 0))).toArray 132 (0, 0))
  bel : Below w.heap.size w wr
theorem fillr_splice (c : Tok) (n k m : Nat) (hm : k + m ≤ n) : (tks (List.replicate k c ++ List.replicate (n - k) (0, 0))).take (k * 2) ++ (tks (List.replicate m c) ++ (tks (List.replicate k c ++ List.replicate (n - k) (0, 0))).drop (k * 2 + m * 2)) = tks (List.replicate (k + m) c ++ List.replicate (n - (k + m)) (0, 0)) := by
  rw [← Nat.add_mul, tks_take, tks_drop, ← tks_append, ← tks_append]
  congr 1
  rw [List.take_append_of_le_length (by simp), List.take_of_length_le (by simp), List.drop_append, List.drop_of_length_le (by simp)]
  simp only [List.nil_append, List.length_replicate, List.drop_replicate]
  rw [← List.append_assoc, List.replicate_append_replicate]
  congr 2; omega
theorem repr_src {w wr : World} {c : Tok} {n k m : Nat} (h : RrX w wr c n k) (hm2 : k + m ≤ n) (hm : m ≤ k) {j : Nat} {v : Value} (hj : (tks (List.replicate m c))[j]? = some v) : wr.drew.cell? ((⟨w.heap.size, 0, none⟩ : Addr).add j) = some v := by
  have h1 := cell_of_row wr w.heap.size j _ _ _ h.row
  have e : ((⟨w.heap.size, 0, none⟩ : Addr).add j) = ⟨w.heap.size, j, none⟩ := by
    simp [Addr.add]; omega
  have h2 : wr.drew.cell? ⟨w.heap.size, j, none⟩ = wr.cell? ⟨w.heap.size, j, none⟩ := rfl
  rw [e, h2, h1]
  have hl := (List.getElem?_eq_some_iff.1 hj).1
  have h3 : (tks (List.replicate k c ++ List.replicate (n - k) (0, 0)))[j]? = some v := by
    obtain ⟨d, rfl⟩ : ∃ d, k = m + d := ⟨k - m, by omega⟩
    rw [← List.replicate_append_replicate, List.append_assoc, tks_append, List.getElem?_append_left hl]
    exact hj
  simpa using h3
set_option maxRecDepth 100000 in
set_option maxHeartbeats 2000000 in
theorem repRun_any (g : Nat) (c : Tok) (n : Nat) (w : World) (h : w.cell? ⟨g, 0, none⟩ = some (.int .i64 c.1)) (h' : w.cell? ⟨g, 1, none⟩ = some (.int .i64 c.2)) (hgl : g < w.heap.size) (hn : n ≤ 1000000) :
    Calls Tryz.prog 116 #[.slice (some ⟨g, 0, none⟩) 1 1, .int .i64 (n : Nat)] w (RrPost w c n) := by
  have hwn : IntKind.u64.wrap (n : Int) = (n : Int) := by simp only [IntKind.wrap, IntKind.signed, IntKind.bits]; first | omega | (simp; omega)
  have d0 : decide ((n : Int) < 0) = false := by simp
  have d1 : decide ((9223372036854775807 : Int) < (n : Int)) = false := by simp; omega
  have hH := Lib.hid h
  have hH' := Lib.hid h'
  clear h h'
  go_enter Tryz.func116, Tryz.ntmps116
  go_wp2_with fail
  refine (mul64_one n (by omega) w).mono ?_
  rintro e w' ⟨rfl, rfl⟩
  go_wp2_with (at_make; refine wpl_make_full tyR rfl _ _ rfl w.heap.size .i64 .i64 _ _ n rfl rfl rfl rfl (by omega) (by omega) (Nat.le_refl _) ?_)
  intro w1 own1 hg1
  have hb1 : Below w.heap.size w w1 := (Below.refl _ _).grown hg1 (Nat.le_refl _) (by simp)
  have own1 : w1.ownsRow w.heap.size 132 2 (.slice (some ⟨w.heap.size, 0, none⟩) n n) n (tks (List.replicate n (0, 0))) := by rw [← made_toks]; exact own1
  by_cases hn0 : n = 0
  · subst hn0
    have hO := Lib.hid (And.intro own1 hb1)
    have hrun : (Builtin.copy_ #[127, 127] 3 #[.slice (some ⟨w.heap.size, 0, none⟩) 0 0, .slice (some ⟨g, 0, none⟩) 1 1]).run Tryz.prog w1 = .ok (.int .i64 0) w1 :=
      run_copy_none2 (P := Tryz.prog) w1 127 127 3 132 _ _ 0 0 1 1 Tryz.underlying127 (by kernel_rfl) rfl
    clear own1 hg1 hb1
    go_wp2
    go_loop [8] (fun i => i = .int .i64 0) (fun _ => 0)
    case atStart => rfl
    case round =>
      obtain rfl := hrel
      go_wp2
      go_ret
      exact ⟨_, rfl, hO.out.1, hO.out.2⟩
  have hrow1 : w1.heap[w.heap.size]? = some (.cells (tks (List.replicate n (0, 0))).toArray 132 (0, 0)) := by
    rcases own1.2 with ⟨h1, _⟩ | ⟨g2, cap2, cur, h1, _, hg, _, _, hsz, hcur⟩
    · simp at h1
    · simp only [Value.slice.injEq, Option.some.injEq, Addr.mk.injEq, and_true, true_and] at h1
      obtain ⟨rfl, rfl⟩ := h1
      have e3 : cur = (tks (List.replicate n (0, 0))).toArray := by
        apply Array.ext'
        rw [List.take_of_length_le (by rw [Array.length_toList, hsz]; exact Nat.le_refl _)] at hcur
        rw [hcur]
      rw [← e3]; exact hg
  have hc1 : w1.cell? ⟨g, 0, none⟩ = some (.int .i64 c.1) := (hb1.cell (p := ⟨g, 0, none⟩) hgl).trans hH.out
  have hc2 : w1.cell? ⟨g, 1, none⟩ = some (.int .i64 c.2) := (hb1.cell (p := ⟨g, 1, none⟩) hgl).trans hH'.out
  have hbl := Lib.hid hb1
  have HR1 := Lib.hid hrow1
  have HC1 := Lib.hid hc1
  have HC2 := Lib.hid hc2
  clear own1 hg1 hb1 hrow1 hc1 hc2 hH hH'
  obtain ⟨w2, hrun, HR⟩ : ∃ w2, (Builtin.copy_ #[127, 127] 3 #[.slice (some ⟨w.heap.size, 0, none⟩) n n, .slice (some ⟨g, 0, none⟩) 1 1]).run Tryz.prog w1 = .ok (.int .i64 1) w2 ∧ Hid (RrX w w2 c n 1) := by
    have h1 := run_copy_row2 (P := Tryz.prog) w1 127 127 3 132 w.heap.size 0 n n ⟨g, 0, none⟩ 1 1 (tks (List.replicate n (0, 0))).toArray 132 (tks [c]) 1 Tryz.underlying127 (by kernel_rfl) HR1.out (by show min 1 n = 1; omega) rfl (fun j v hj => by
      match j, hj with
      | 0, hj => cases hj; exact HC1.out
      | 1, hj => cases hj; exact HC2.out) (by simp [tks_length]; omega) (tks_one [c])
    refine ⟨_, h1, Lib.hid ⟨?_, below_setRow (B := w.heap.size) (w0 := w) (g := w.heap.size) hbl.out (Nat.le_refl _) _⟩⟩
    have e : (((tks (List.replicate n (0, 0))).toArray).toList.take 0 ++ tks [c] ++ ((tks (List.replicate n (0, 0))).toArray).toList.drop (0 + (tks [c]).length)) = tks (List.replicate 1 c ++ List.replicate (n - 1) (0, 0)) := by
      have := fillr_splice c n 0 1 (by omega)
      simpa [tks_length] using this
    rw [← e]
    exact setRow_heap _ _ _ _ _ _ HR1.out
  go_wp2
  go_loopw [8] (fun i wr => ∃ k : Nat, 1 ≤ k ∧ k ≤ n ∧ i = .int .i64 k ∧ Hid (RrX w wr c n k)) (fun i _ => n - (intOf i).toNat)
  case atStart => exact ⟨1, by omega, by omega, rfl, HR⟩
  case round =>
    obtain ⟨k, hk1, hk, rfl, HK⟩ := hrel
    by_cases hlt : k < n
    · have hnk : (n = k) = False := by simp; omega
      obtain ⟨m, hmE, hm1, hm2⟩ : ∃ m, m = min k (n - k) ∧ 0 < m ∧ k + m ≤ n := ⟨min k (n - k), rfl, by omega, by omega⟩
      have hmk : m ≤ k := by omega
      have hmH := Lib.hid hmE
      clear hmE
      have hwr : IntKind.i64.wrap ((k : Int) + (m : Int)) = ((k + m : Nat) : Int) := by simp only [IntKind.wrap, IntKind.signed, IntKind.bits]; first | omega | (simp; omega)
      have hHX : RrX w (wr.drew.setRow w.heap.size (List.take (k * 2) (tks (List.replicate k c ++ List.replicate (n - k) (0, 0))) ++ (tks (List.replicate m c) ++ List.drop (k * 2 + m * 2) (tks (List.replicate k c ++ List.replicate (n - k) (0, 0))))).toArray) c n (k + m) := by
        refine ⟨?_, below_setRow (B := w.heap.size) (w0 := w) (g := w.heap.size) HK.out.bel.drew (Nat.le_refl _) _⟩
        rw [fillr_splice c n k m hm2]
        exact setRow_heap wr.drew _ _ _ _ _ HK.out.row
      have hH2 := Lib.hid hHX
      clear hHX
      go_wp2_with fail
      go_region_law (refine step_copy2 rfl (.tmp 41) (.tmp 44) 127 127 rfl 132 Tryz.underlying127 (by kernel_rfl) w.heap.size (k * 2) (n - k) (n - k) ⟨w.heap.size, 0, none⟩ k n (by simp [Act.eval, Act.put, hnk]) (by simp [Act.eval, Act.put]) _ 132 HK.out.row (tks (List.replicate m c)) m (by have := hmH.out; show min k (n - k) = m; omega) (by rw [tks_length, List.length_replicate]) (fun j v hj => repr_src HK.out hm2 hmk hj) (by simp [tks_length]; omega) (tks_one _) ?_)
      simp only [List.getElem_toArray, List.getElem_cons_zero, List.getElem_cons_succ, Act.put, List.setIfInBounds_toArray, List.set_cons_zero, List.set_cons_succ]
      rw [tks_length, List.length_replicate]
      go_roundw
      case rel => exact ⟨_, _, _, _, _, _, _, _, _, _, _, _, _, _, ⟨k + m, by omega, hm2, by go_num, hH2⟩, rfl⟩
      case measure => simp [intOf]; omega
    · obtain rfl : k = n := by omega
      go_wp2
      go_ret
      refine ⟨_, rfl, ⟨by simp [tks_length], .inr ⟨w.heap.size, k, _, rfl, Nat.le_refl _, HK.out.row, by omega, by unfold maxLen; omega, ?_, ?_⟩⟩, HK.out.bel⟩
      · simp [tks_length]
      · simp [List.take_of_length_le, tks_length]
end Go.Proofs.YtjjbgdmalefdlaaGreatDoor
end

section
namespace Go.Proofs.YtjjbgdmalefdlaaGreatDoor
open Go.RowKit

def Bl.StPost (w : World) (y : Int) (c : Nat) (e : Ending) (w' : World) : Prop :=
  ∃ v rs, e = .returned v ∧ w'.ownsRow w.heap.size 132 2 v rs.length (tks rs) ∧ Bl.Got y c rs ∧ rs = Bl.stF y c ∧ Below w.heap.size w w'
theorem own_runs1 {w : World} {base n : Nat} {v : Value} {l : List Tok} (h : w.ownsRow base 132 2 v n (tks l)) : ∃ a cap, v = .slice a n cap := by
  rcases own_nil_or h with ⟨rfl, rfl⟩ | ⟨g, cap, rfl, _⟩
  · exact ⟨none, 0, rfl⟩
  · exact ⟨_, cap, rfl⟩
set_option maxRecDepth 100000 in
set_option maxHeartbeats 4000000 in
theorem stretch_zero (c : Nat) (w : World) (hc2 : c ≤ 3000) : Calls Tryz.prog 104 #[.int .i64 0, .int .i64 (c : Nat)] w (Bl.StPost w 0 c) := by
  have hb0 := below_alloc w (.cells #[.int .i64 18, .int .i64 17] 3)
  have hrow : (w.alloc (.cells #[.int .i64 18, .int .i64 17] 3)).heap[w.heap.size]? = some (.cells #[.int .i64 18, .int .i64 17] 3 (0, 0)) := heap_alloc_last w _
  have c0 : (w.alloc (.cells #[.int .i64 18, .int .i64 17] 3)).cell? ⟨w.heap.size, 0, none⟩ = some (.int .i64 18) := by rw [cell_of_row _ _ _ _ _ (0, 0) hrow]; rfl
  have c1 : (w.alloc (.cells #[.int .i64 18, .int .i64 17] 3)).cell? ⟨w.heap.size, 1, none⟩ = some (.int .i64 17) := by rw [cell_of_row _ _ _ _ _ (0, 0) hrow]; rfl
  have HB0 := Lib.hid hb0
  have HC0 := Lib.hid c0
  have HC1 := Lib.hid c1
  have HG : Hid (w.heap.size < (w.alloc (.cells #[.int .i64 18, .int .i64 17] 3)).heap.size) := Lib.hid (by simp)
  clear hb0 hrow c0 c1
  go_enter Tryz.func104, Tryz.ntmps104
  go_wp2
  revert HB0 HC0 HC1 HG
  generalize World.alloc _ _ = w0
  intro HB0 HC0 HC1 HG
  go_loopw [1, 5, 26] (fun cv ov iv wr => ∃ (i d r : Nat) (rs : List Tok), i ≤ 2 ∧ iv = .int .i64 i ∧ cv = .int .i64 (r : Nat) ∧ Hid (d + r = c) ∧ Hid (Bl.zs c i = (rs, r)) ∧ Hid (Bl.Got (0) d rs) ∧ Hid (wr.ownsRow w0.heap.size 132 2 ov rs.length (tks rs)) ∧ Hid (Below w0.heap.size w0 wr)) (fun _ _ iv _ => 2 - (intOf iv).toNat)
  case atStart => exact ⟨0, 0, c, [], by omega, rfl, rfl, Lib.hid (by omega), Lib.hid rfl, Lib.hid (Bl.Got.nil 0), Lib.hid (World.ownsRow_nil _ _ _ _), Lib.hid (Below.refl _ _)⟩
  case round =>
    obtain ⟨i, d, r, rs, hi, rfl, rfl, HS, HE, HGT, HO, HB⟩ := hrel
    obtain ⟨va, vc, rfl⟩ := own_runs1 HO.out
    by_cases hi0 : i = 0
    · subst hi0
      have ck : wr.cell? ⟨w.heap.size, 0, none⟩ = some (.int .i64 18) := (HB.out.cell (p := ⟨w.heap.size, 0, none⟩) HG.out).trans HC0.out
      have hrl : r ≤ 3000 := by have := HS.out; omega
      have HRB := Lib.hid (runBase_any 18 wr)
      rw [show Bl.rb 18 = .tuple #[.int .i64 11, .int .i64 7, .bool true] from rfl] at HRB
      go_wp2_with fail
      refine HRB.out.mono ?_
      rintro e w5 ⟨rfl, rfl⟩
      clear HRB ck
      go_wp2_with fail
      go_loopw [1, 5, 12] (fun cv ov xv wx => ∃ (d r : Nat) (rs : List Tok), cv = .int .i64 (r : Nat) ∧ Hid (d + r = c) ∧ Hid (Bl.go 18 11 127 rs r = (Bl.zs c) 1) ∧ Hid (Bl.Got (0) d rs) ∧ Hid (wx.ownsRow w0.heap.size 132 2 ov rs.length (tks rs)) ∧ Hid (Below w0.heap.size w0 wx)) (fun cv _ _ _ => (intOf cv).toNat)
      case atStart => exact ⟨d, r, rs, rfl, HS, Lib.hid (by rw [show (Bl.zs c) 1 = Bl.go 18 11 127 ((Bl.zs c) 0).1 ((Bl.zs c) 0).2 from rfl, HE.out]), HGT, HO, HB⟩
      case round =>
        clear HS HE HGT HO HB hrl
        obtain ⟨d, r, rs, rfl, HS, HE, HGT, HO, HB⟩ := hrel
        have hrl : r ≤ 3000 := by have := HS.out; omega
        have hmx : rs.length ≤ 3000 := by have := HGT.out.le; have := HS.out; omega
        by_cases hb : 11 ≤ r
        · obtain ⟨q, rfl⟩ : ∃ q, r = q + 11 := ⟨r - 11, by omega⟩
          by_cases hq : (q : Int) ≤ 127
          · have hmin : min (q : Int) 127 = (q : Int) := by omega
            have hsrc := src_run wr ((18 : Int), ((q : Nat) : Int))
            have hz := HB.out.size
            have HG2 : Hid (Bl.Got (0) (d + (11 + q)) (rs ++ [(18, ((q : Nat) : Int))])) := Lib.hid (Bl.Got.zeros (s := 18) (z := q) HGT.out (by omega) (by show (((q : Nat)) : Int) ≤ 127; omega))
            have HE2 : Hid (Bl.go 18 11 127 (rs ++ [((18 : Int), ((q : Nat) : Int))]) 0 = (Bl.zs c) 1) := Lib.hid (by rw [← HE.out]; exact (Bl.go_step 18 (by omega) rs _ q 0 (by omega) (by omega) (by omega)).symm)
            have HS2 : Hid ((d + (11 + q)) + 0 = c) := Lib.hid (by have := HS.out; omega)
            go_wp2_with (at_builtin; refine wpl_append tyR rfl _ _ rfl (own_below HO.out (below_alloc wr _)) hsrc rfl rfl (by omega) (by omega) (by simp; omega) ?_)
            intro v' w' own' hg' _
            have HB5 : Hid (Below w0.heap.size w0 w') := Lib.hid ((below_then HB.out (below_alloc wr _)).grown hg' (by simp; omega) (fun r e => (HO.out.lt r e).1))
            rw [← tks_append] at own'
            have HO5 : Hid (w'.ownsRow w0.heap.size 132 2 v' (rs ++ [((18 : Int), ((q : Nat) : Int))]).length (tks (rs ++ [((18 : Int), ((q : Nat) : Int))]))) := Lib.hid (by rw [List.length_append]; exact own')
            clear own' hg' hsrc HO HB hz HGT HS HE
            go_wp2
            go_roundw
            case rel => exact ⟨_, 0, _, by first | go_num | (congr 1; omega), HS2, HE2, HG2, HO5, HB5⟩
            case measure => simp [intOf]; omega
          · have hmin : min (q : Int) 127 = 127 := by omega
            obtain ⟨p, rfl⟩ : ∃ p, q = p + 127 := ⟨q - 127, by omega⟩
            have hsrc := src_run wr ((18 : Int), (127 : Int))
            have hz := HB.out.size
            have HG2 : Hid (Bl.Got (0) (d + (11 + 127)) (rs ++ [(18, (127 : Int))])) := Lib.hid (Bl.Got.zeros (s := 18) (z := 127) HGT.out (by omega) (by show (((127 : Nat)) : Int) ≤ 127; omega))
            have HE2 : Hid (Bl.go 18 11 127 (rs ++ [((18 : Int), (127 : Int))]) p = (Bl.zs c) 1) := Lib.hid (by rw [← HE.out]; exact (Bl.go_step 18 (by omega) rs _ 127 p (by omega) (by omega) (by omega)).symm)
            have HS2 : Hid ((d + (11 + 127)) + p = c) := Lib.hid (by have := HS.out; omega)
            go_wp2_with (at_builtin; refine wpl_append tyR rfl _ _ rfl (own_below HO.out (below_alloc wr _)) hsrc rfl rfl (by omega) (by omega) (by simp; omega) ?_)
            intro v' w' own' hg' _
            have HB5 : Hid (Below w0.heap.size w0 w') := Lib.hid ((below_then HB.out (below_alloc wr _)).grown hg' (by simp; omega) (fun r e => (HO.out.lt r e).1))
            rw [← tks_append] at own'
            have HO5 : Hid (w'.ownsRow w0.heap.size 132 2 v' (rs ++ [((18 : Int), (127 : Int))]).length (tks (rs ++ [((18 : Int), (127 : Int))]))) := Lib.hid (by rw [List.length_append]; exact own')
            clear own' hg' hsrc HO HB hz HGT HS HE
            go_wp2
            go_roundw
            case rel => exact ⟨_, p, _, by first | go_num | (congr 1; omega), HS2, HE2, HG2, HO5, HB5⟩
            case measure => simp [intOf]; omega
        · have db : decide (((11 : Nat) : Int) ≤ (r : Int)) = false := decide_eq_false (by omega)
          have db2 : decide ((11 : Int) ≤ (r : Int)) = false := decide_eq_false (by omega)
          go_wp2
          go_roundw
          case rel => exact ⟨1, d, r, rs, by omega, by go_num, rfl, HS, Lib.hid (by rw [← HE.out, Bl.go_end _ _ _ _ _ (by omega)]), HGT, HO, HB⟩
          case measure => simp [intOf]
    · by_cases hi1 : i = 1
      · subst hi1
        have ck : wr.cell? ⟨w.heap.size, 1, none⟩ = some (.int .i64 17) := (HB.out.cell (p := ⟨w.heap.size, 1, none⟩) HG.out).trans HC1.out
        have hrl : r ≤ 3000 := by have := HS.out; omega
        have HRB := Lib.hid (runBase_any 17 wr)
        rw [show Bl.rb 17 = .tuple #[.int .i64 3, .int .i64 3, .bool true] from rfl] at HRB
        go_wp2_with fail
        refine HRB.out.mono ?_
        rintro e w5 ⟨rfl, rfl⟩
        clear HRB ck
        go_wp2_with fail
        go_loopw [1, 5, 12] (fun cv ov xv wx => ∃ (d r : Nat) (rs : List Tok), cv = .int .i64 (r : Nat) ∧ Hid (d + r = c) ∧ Hid (Bl.go 17 3 7 rs r = (Bl.zs c) 2) ∧ Hid (Bl.Got (0) d rs) ∧ Hid (wx.ownsRow w0.heap.size 132 2 ov rs.length (tks rs)) ∧ Hid (Below w0.heap.size w0 wx)) (fun cv _ _ _ => (intOf cv).toNat)
        case atStart => exact ⟨d, r, rs, rfl, HS, Lib.hid (by rw [show (Bl.zs c) 2 = Bl.go 17 3 7 ((Bl.zs c) 1).1 ((Bl.zs c) 1).2 from rfl, HE.out]), HGT, HO, HB⟩
        case round =>
          clear HS HE HGT HO HB hrl
          obtain ⟨d, r, rs, rfl, HS, HE, HGT, HO, HB⟩ := hrel
          have hrl : r ≤ 3000 := by have := HS.out; omega
          have hmx : rs.length ≤ 3000 := by have := HGT.out.le; have := HS.out; omega
          by_cases hb : 3 ≤ r
          · obtain ⟨q, rfl⟩ : ∃ q, r = q + 3 := ⟨r - 3, by omega⟩
            by_cases hq : (q : Int) ≤ 7
            · have hmin : min (q : Int) 7 = (q : Int) := by omega
              have hsrc := src_run wr ((17 : Int), ((q : Nat) : Int))
              have hz := HB.out.size
              have HG2 : Hid (Bl.Got (0) (d + (3 + q)) (rs ++ [(17, ((q : Nat) : Int))])) := Lib.hid (Bl.Got.zeros (s := 17) (z := q) HGT.out (by omega) (by show (((q : Nat)) : Int) ≤ 7; omega))
              have HE2 : Hid (Bl.go 17 3 7 (rs ++ [((17 : Int), ((q : Nat) : Int))]) 0 = (Bl.zs c) 2) := Lib.hid (by rw [← HE.out]; exact (Bl.go_step 17 (by omega) rs _ q 0 (by omega) (by omega) (by omega)).symm)
              have HS2 : Hid ((d + (3 + q)) + 0 = c) := Lib.hid (by have := HS.out; omega)
              go_wp2_with (at_builtin; refine wpl_append tyR rfl _ _ rfl (own_below HO.out (below_alloc wr _)) hsrc rfl rfl (by omega) (by omega) (by simp; omega) ?_)
              intro v' w' own' hg' _
              have HB5 : Hid (Below w0.heap.size w0 w') := Lib.hid ((below_then HB.out (below_alloc wr _)).grown hg' (by simp; omega) (fun r e => (HO.out.lt r e).1))
              rw [← tks_append] at own'
              have HO5 : Hid (w'.ownsRow w0.heap.size 132 2 v' (rs ++ [((17 : Int), ((q : Nat) : Int))]).length (tks (rs ++ [((17 : Int), ((q : Nat) : Int))]))) := Lib.hid (by rw [List.length_append]; exact own')
              clear own' hg' hsrc HO HB hz HGT HS HE
              go_wp2
              go_roundw
              case rel => exact ⟨_, 0, _, by first | go_num | (congr 1; omega), HS2, HE2, HG2, HO5, HB5⟩
              case measure => simp [intOf]; omega
            · have hmin : min (q : Int) 7 = 7 := by omega
              obtain ⟨p, rfl⟩ : ∃ p, q = p + 7 := ⟨q - 7, by omega⟩
              have hsrc := src_run wr ((17 : Int), (7 : Int))
              have hz := HB.out.size
              have HG2 : Hid (Bl.Got (0) (d + (3 + 7)) (rs ++ [(17, (7 : Int))])) := Lib.hid (Bl.Got.zeros (s := 17) (z := 7) HGT.out (by omega) (by show (((7 : Nat)) : Int) ≤ 7; omega))
              have HE2 : Hid (Bl.go 17 3 7 (rs ++ [((17 : Int), (7 : Int))]) p = (Bl.zs c) 2) := Lib.hid (by rw [← HE.out]; exact (Bl.go_step 17 (by omega) rs _ 7 p (by omega) (by omega) (by omega)).symm)
              have HS2 : Hid ((d + (3 + 7)) + p = c) := Lib.hid (by have := HS.out; omega)
              go_wp2_with (at_builtin; refine wpl_append tyR rfl _ _ rfl (own_below HO.out (below_alloc wr _)) hsrc rfl rfl (by omega) (by omega) (by simp; omega) ?_)
              intro v' w' own' hg' _
              have HB5 : Hid (Below w0.heap.size w0 w') := Lib.hid ((below_then HB.out (below_alloc wr _)).grown hg' (by simp; omega) (fun r e => (HO.out.lt r e).1))
              rw [← tks_append] at own'
              have HO5 : Hid (w'.ownsRow w0.heap.size 132 2 v' (rs ++ [((17 : Int), (7 : Int))]).length (tks (rs ++ [((17 : Int), (7 : Int))]))) := Lib.hid (by rw [List.length_append]; exact own')
              clear own' hg' hsrc HO HB hz HGT HS HE
              go_wp2
              go_roundw
              case rel => exact ⟨_, p, _, by first | go_num | (congr 1; omega), HS2, HE2, HG2, HO5, HB5⟩
              case measure => simp [intOf]; omega
          · have db : decide (((3 : Nat) : Int) ≤ (r : Int)) = false := decide_eq_false (by omega)
            have db2 : decide ((3 : Int) ≤ (r : Int)) = false := decide_eq_false (by omega)
            go_wp2
            go_roundw
            case rel => exact ⟨2, d, r, rs, by omega, by go_num, rfl, HS, Lib.hid (by rw [← HE.out, Bl.go_end _ _ _ _ _ (by omega)]), HGT, HO, HB⟩
            case measure => simp [intOf]
      · obtain rfl : i = 2 := by omega
        have HST : Hid (rs ++ List.replicate r ((0 : Int), (0 : Int)) = Bl.stF 0 c) := Lib.hid (by unfold Bl.stF; rw [if_pos rfl, HE.out])
        have hrl : r ≤ 3000 := by have := HS.out; omega
        have hmx : rs.length ≤ 3000 := by have := HGT.out.le; have := HS.out; omega
        have HGR : Hid (Bl.Got 0 c (rs ++ List.replicate r (0, 0))) := Lib.hid (by rw [← HS.out]; exact Bl.Got.rest (by omega) (by omega) r HGT.out)
        have hrow5 : (wr.alloc (.cells #[.int .i64 0, .int .i64 0] 132)).heap[wr.heap.size]? = some (.cells #[.int .i64 0, .int .i64 0] 132 (0, 0)) := heap_alloc_last wr _
        have HRP := Lib.hid (repRun_any wr.heap.size (0, 0) r (wr.alloc (.cells #[.int .i64 0, .int .i64 0] 132)) (by rw [cell_of_row _ _ _ _ _ (0, 0) hrow5]; rfl) (by rw [cell_of_row _ _ _ _ _ (0, 0) hrow5]; rfl) (by simp) (by omega))
        have hb5 := below_alloc wr (.cells #[.int .i64 0, .int .i64 0] 132)
        have HB6 := Lib.hid (below_then HB.out hb5)
        have HO6 := Lib.hid (own_below HO.out hb5)
        clear hrow5 hb5 HO HB
        go_wp2_with fail
        refine HRP.out.mono ?_
        rintro e w6 ⟨v6, rfl, own6, hb6⟩
        obtain ⟨a6, c6, rfl, hts⟩ := own_rs2 own6 (fun i hi => by
          have e : (List.replicate r ((0 : Int), (0 : Int))).getD i (0, 0) = (0, 0) := by simp [List.getD, hi]
          rw [e]; exact ⟨by decide, by show (Lit.int .i64 0).wf = true; decide⟩)
        have hsrc := hts.src
        have HO7 := own_below HO6.out hb6
        have HB7 := Lib.hid (below_then HB6.out hb6)
        have hz := HB7.out.size
        have hl7 : rs.length + r ≤ 6000 := by omega
        go_wp2_with (at_builtin; refine wpl_append tyR rfl _ _ rfl HO7 hsrc rfl rfl (by omega) (by omega) (by omega) ?_)
        intro v' w' own' hg' _
        have hb8 := HB7.out.grown hg' hz (fun r e => (HO7.lt r e).1)
        have own8 := own_base own' (base' := w.heap.size) (fun g hg => Nat.le_trans HB0.out.size (own'.lt g hg).1)
        rw [← tks_append, ← (show (rs ++ List.replicate r ((0 : Int), (0 : Int))).length = rs.length + r by simp)] at own8
        have HP : Hid (Bl.StPost w 0 c (.returned v') w') := Lib.hid ⟨_, _, rfl, own8, HGR.out, HST.out, below_then HB0.out hb8⟩
        clear own' hg' own8 hb8 hsrc HO7 HB7 own6 hb6 HO6 HB6 HRP hts
        go_wp2
        go_ret
        exact HP.out
set_option maxRecDepth 100000 in
set_option maxHeartbeats 4000000 in
theorem stretch_pos (y : Int) (c m : Nat) (w : World) (h0 : 0 ≤ y) (h15 : y ≤ 15) (hy : 0 < y) (hc : c = m + 1) (hc2 : c ≤ 3000) : Calls Tryz.prog 104 #[.int .i64 y, .int .i64 ((m + 1 : Nat) : Int)] w (Bl.StPost w y c) := by
  have hwy : (Lit.int .i64 y).wf = true := Bl.In.wf (o := [y]) (fun x hx => by simp only [List.mem_singleton] at hx; subst hx; exact ⟨h0, h15⟩) y (by simp)
  have hb0 := below_alloc2 w (.cells #[.int .i64 18, .int .i64 17] 3) (.cells #[.int .i64 y, .int .i64 0] 132)
  have hsrc := src_run (w.alloc (.cells #[.int .i64 18, .int .i64 17] 3)) (y, 0)
  rw [show (w.alloc (.cells #[.int .i64 18, .int .i64 17] 3)).heap.size = w.heap.size + 1 from Array.size_push _] at hsrc
  have hm3 : m ≤ 3000 := by omega
  have d0 : decide ((0 : Int) < y) = true := decide_eq_true hy
  have HB0 := Lib.hid hb0
  have hz := hb0.size
  have HCM := Lib.hid hc
  clear hb0 hc
  go_enter Tryz.func104, Tryz.ntmps104
  go_wp2_with (at_builtin; refine wpl_append tyR rfl _ _ rfl (World.ownsRow_nil _ w.heap.size 132 2) hsrc rfl rfl (by omega) (by omega) hz ?_)
  intro v' w' own' hg' _
  have hb1 := HB0.out.grown hg' hz (by intro r e; simp [Value.ownBlock] at e)
  have hrow : (w'.alloc (.cells #[.int .i64 16] 3)).heap[w'.heap.size]? = some (.cells #[.int .i64 16] 3 (0, 0)) := heap_alloc_last w' _
  have c0 : (w'.alloc (.cells #[.int .i64 16] 3)).cell? ⟨w'.heap.size, 0, none⟩ = some (.int .i64 16) := by rw [cell_of_row _ _ _ _ _ (0, 0) hrow]; rfl
  have HC0 := Lib.hid c0
  have HBS := Lib.hid (below_then hb1 (below_alloc w' (.cells #[.int .i64 16] 3)))
  have HOS := Lib.hid (own_below own' (below_alloc w' (.cells #[.int .i64 16] 3)))
  clear HB0 hb1 own' hg' hsrc c0 hrow hz
  have HB0 : Hid (Below w.heap.size w w) := Lib.hid (Below.refl _ _)
  obtain ⟨gL, hgL⟩ : ∃ gL, w'.heap.size = gL := ⟨_, rfl⟩
  rw [hgL] at HC0
  go_wp2
  clear hgL
  revert HC0 HBS HOS
  generalize World.alloc _ _ = w0
  intro HBS HOS HC0
  go_loopw [1, 5, 26] (fun cv ov iv wr => ∃ (i d r : Nat) (rs : List Tok), i ≤ 1 ∧ iv = .int .i64 i ∧ cv = .int .i64 (r : Nat) ∧ Hid (d + r = c) ∧ Hid (Bl.ys y c i = (rs, r)) ∧ Hid (d ≥ 1 ∧ Bl.Got (y) d rs) ∧ Hid (wr.ownsRow w.heap.size 132 2 ov rs.length (tks rs)) ∧ Hid (Below w.heap.size w wr) ∧ Hid (i = 0 → wr.cell? ⟨gL, 0, none⟩ = some (.int .i64 16))) (fun _ _ iv _ => 1 - (intOf iv).toNat)
  case atStart => exact ⟨0, 1, m, [(y, 0)], by omega, rfl, rfl, Lib.hid (by have := HCM.out; omega), Lib.hid (by show ([(y, 0)], c - 1) = ([(y, 0)], m); rw [HCM.out]; rfl), Lib.hid ⟨by omega, by simpa using (Bl.Got.nil y).lit h0 h15⟩, HOS, HBS, Lib.hid (fun _ => HC0.out)⟩
  case round =>
    obtain ⟨i, d, r, rs, hi, rfl, rfl, HS, HE, HGT, HO, HB, HCK⟩ := hrel
    obtain ⟨va, vc, rfl⟩ := own_runs1 HO.out
    by_cases hi0 : i = 0
    · subst hi0
      have ck : wr.cell? ⟨gL, 0, none⟩ = some (.int .i64 16) := HCK.out rfl
      have hrl : r ≤ 3000 := by have := HS.out; omega
      have HRB := Lib.hid (runBase_any 16 wr)
      rw [show Bl.rb 16 = .tuple #[.int .i64 3, .int .i64 2, .bool true] from rfl] at HRB
      go_wp2_with fail
      refine HRB.out.mono ?_
      rintro e w5 ⟨rfl, rfl⟩
      clear HRB ck
      go_wp2_with fail
      go_loopw [1, 5, 12] (fun cv ov xv wx => ∃ (d r : Nat) (rs : List Tok), cv = .int .i64 (r : Nat) ∧ Hid (d + r = c) ∧ Hid (Bl.go 16 3 3 rs r = (Bl.ys y c) 1) ∧ Hid (d ≥ 1 ∧ Bl.Got (y) d rs) ∧ Hid (wx.ownsRow w.heap.size 132 2 ov rs.length (tks rs)) ∧ Hid (Below w.heap.size w wx)) (fun cv _ _ _ => (intOf cv).toNat)
      case atStart => exact ⟨d, r, rs, rfl, HS, Lib.hid (by rw [show (Bl.ys y c) 1 = Bl.go 16 3 3 ((Bl.ys y c) 0).1 ((Bl.ys y c) 0).2 from rfl, HE.out]), HGT, HO, HB⟩
      case round =>
        clear HS HE HGT HO HB hrl
        obtain ⟨d, r, rs, rfl, HS, HE, HGT, HO, HB⟩ := hrel
        have hrl : r ≤ 3000 := by have := HS.out; omega
        have hmx : rs.length ≤ 3000 := by have := HGT.out.2.le; have := HS.out; omega
        by_cases hb : 3 ≤ r
        · obtain ⟨q, rfl⟩ : ∃ q, r = q + 3 := ⟨r - 3, by omega⟩
          by_cases hq : (q : Int) ≤ 3
          · have hmin : min (q : Int) 3 = (q : Int) := by omega
            have hsrc := src_run wr ((16 : Int), ((q : Nat) : Int))
            have hz := HB.out.size
            have HG2 : Hid (d + (3 + q) ≥ 1 ∧ Bl.Got (y) (d + (3 + q)) (rs ++ [(16, ((q : Nat) : Int))])) := Lib.hid (⟨by have := HGT.out.1; omega, Bl.Got.again (z := q) HGT.out.2 HGT.out.1 (by omega)⟩)
            have HE2 : Hid (Bl.go 16 3 3 (rs ++ [((16 : Int), ((q : Nat) : Int))]) 0 = (Bl.ys y c) 1) := Lib.hid (by rw [← HE.out]; exact (Bl.go_step 16 (by omega) rs _ q 0 (by omega) (by omega) (by omega)).symm)
            have HS2 : Hid ((d + (3 + q)) + 0 = c) := Lib.hid (by have := HS.out; omega)
            go_wp2_with (at_builtin; refine wpl_append tyR rfl _ _ rfl (own_below HO.out (below_alloc wr _)) hsrc rfl rfl (by omega) (by omega) (by simp; omega) ?_)
            intro v' w' own' hg' _
            have HB5 : Hid (Below w.heap.size w w') := Lib.hid ((below_then HB.out (below_alloc wr _)).grown hg' (by simp; omega) (fun r e => (HO.out.lt r e).1))
            rw [← tks_append] at own'
            have HO5 : Hid (w'.ownsRow w.heap.size 132 2 v' (rs ++ [((16 : Int), ((q : Nat) : Int))]).length (tks (rs ++ [((16 : Int), ((q : Nat) : Int))]))) := Lib.hid (by rw [List.length_append]; exact own')
            clear own' hg' hsrc HO HB hz HGT HS HE
            go_wp2
            go_roundw
            case rel => exact ⟨_, 0, _, by first | go_num | (congr 1; omega), HS2, HE2, HG2, HO5, HB5⟩
            case measure => simp [intOf]; omega
          · have hmin : min (q : Int) 3 = 3 := by omega
            obtain ⟨p, rfl⟩ : ∃ p, q = p + 3 := ⟨q - 3, by omega⟩
            have hsrc := src_run wr ((16 : Int), (3 : Int))
            have hz := HB.out.size
            have HG2 : Hid (d + (3 + 3) ≥ 1 ∧ Bl.Got (y) (d + (3 + 3)) (rs ++ [(16, (3 : Int))])) := Lib.hid (⟨by have := HGT.out.1; omega, Bl.Got.again (z := 3) HGT.out.2 HGT.out.1 (by omega)⟩)
            have HE2 : Hid (Bl.go 16 3 3 (rs ++ [((16 : Int), (3 : Int))]) p = (Bl.ys y c) 1) := Lib.hid (by rw [← HE.out]; exact (Bl.go_step 16 (by omega) rs _ 3 p (by omega) (by omega) (by omega)).symm)
            have HS2 : Hid ((d + (3 + 3)) + p = c) := Lib.hid (by have := HS.out; omega)
            go_wp2_with (at_builtin; refine wpl_append tyR rfl _ _ rfl (own_below HO.out (below_alloc wr _)) hsrc rfl rfl (by omega) (by omega) (by simp; omega) ?_)
            intro v' w' own' hg' _
            have HB5 : Hid (Below w.heap.size w w') := Lib.hid ((below_then HB.out (below_alloc wr _)).grown hg' (by simp; omega) (fun r e => (HO.out.lt r e).1))
            rw [← tks_append] at own'
            have HO5 : Hid (w'.ownsRow w.heap.size 132 2 v' (rs ++ [((16 : Int), (3 : Int))]).length (tks (rs ++ [((16 : Int), (3 : Int))]))) := Lib.hid (by rw [List.length_append]; exact own')
            clear own' hg' hsrc HO HB hz HGT HS HE
            go_wp2
            go_roundw
            case rel => exact ⟨_, p, _, by first | go_num | (congr 1; omega), HS2, HE2, HG2, HO5, HB5⟩
            case measure => simp [intOf]; omega
        · have db : decide (((3 : Nat) : Int) ≤ (r : Int)) = false := decide_eq_false (by omega)
          have db2 : decide ((3 : Int) ≤ (r : Int)) = false := decide_eq_false (by omega)
          go_wp2
          go_roundw
          case rel => exact ⟨1, d, r, rs, by omega, by go_num, rfl, HS, Lib.hid (by rw [← HE.out, Bl.go_end _ _ _ _ _ (by omega)]), HGT, HO, HB, Lib.hid (fun h => by omega)⟩
          case measure => simp [intOf]
    · obtain rfl : i = 1 := by omega
      have HST : Hid (rs ++ List.replicate r ((y : Int), (0 : Int)) = Bl.stF y c) := Lib.hid (by unfold Bl.stF; rw [if_neg (by omega), HE.out])
      have hrl : r ≤ 3000 := by have := HS.out; omega
      have hmx : rs.length ≤ 3000 := by have := HGT.out.2.le; have := HS.out; omega
      have HGR : Hid (Bl.Got y c (rs ++ List.replicate r (y, 0))) := Lib.hid (by rw [← HS.out]; exact Bl.Got.rest h0 h15 r HGT.out.2)
      have hrow5 : (wr.alloc (.cells #[.int .i64 y, .int .i64 0] 132)).heap[wr.heap.size]? = some (.cells #[.int .i64 y, .int .i64 0] 132 (0, 0)) := heap_alloc_last wr _
      have HRP := Lib.hid (repRun_any wr.heap.size (y, 0) r (wr.alloc (.cells #[.int .i64 y, .int .i64 0] 132)) (by rw [cell_of_row _ _ _ _ _ (0, 0) hrow5]; rfl) (by rw [cell_of_row _ _ _ _ _ (0, 0) hrow5]; rfl) (by simp) (by omega))
      have hb5 := below_alloc wr (.cells #[.int .i64 y, .int .i64 0] 132)
      have HB6 := Lib.hid (below_then HB.out hb5)
      have HO6 := Lib.hid (own_below HO.out hb5)
      clear hrow5 hb5 HO HB
      go_wp2_with fail
      refine HRP.out.mono ?_
      rintro e w6 ⟨v6, rfl, own6, hb6⟩
      obtain ⟨a6, c6, rfl, hts⟩ := own_rs2 own6 (fun i hi => by
        have e : (List.replicate r ((y : Int), (0 : Int))).getD i (0, 0) = (y, 0) := by simp [List.getD, hi]
        rw [e]; exact ⟨hwy, by show (Lit.int .i64 0).wf = true; decide⟩)
      have hsrc := hts.src
      have HO7 := own_below HO6.out hb6
      have HB7 := Lib.hid (below_then HB6.out hb6)
      have hz := HB7.out.size
      have hl7 : rs.length + r ≤ 6000 := by omega
      go_wp2_with (at_builtin; refine wpl_append tyR rfl _ _ rfl HO7 hsrc rfl rfl (by omega) (by omega) (by omega) ?_)
      intro v' w' own' hg' _
      have hb8 := HB7.out.grown hg' hz (fun r e => (HO7.lt r e).1)
      have own8 := own_base own' (base' := w.heap.size) (fun g hg => Nat.le_trans HB0.out.size (own'.lt g hg).1)
      rw [← tks_append, ← (show (rs ++ List.replicate r ((y : Int), (0 : Int))).length = rs.length + r by simp)] at own8
      have HP : Hid (Bl.StPost w y c (.returned v') w') := Lib.hid ⟨_, _, rfl, own8, HGR.out, HST.out, below_then HB0.out hb8⟩
      clear own' hg' own8 hb8 hsrc HO7 HB7 own6 hb6 HO6 HB6 HRP hts
      go_wp2
      go_ret
      exact HP.out
end Go.Proofs.YtjjbgdmalefdlaaGreatDoor
end
