/- slices.Repeat of one run, any number of times: its contract. -/
import Derived.Test.YtlbngaeimkhkgaaMade
import Derived.Test.YtlbngaeimkhkgaaBlkRun
import Derived.Laws.CopyOwn
import Derived.Deep.QuietTactic
import Derived.Deep.RegionLaw
import Derived.BigQuiet
namespace Go.Proofs.Ytlbngaeimkhkgaa
open Go.RowKit
set_option linter.unusedSimpArgs false

theorem u64_and32 (c : Nat) (h : c < 4294967296) : bits .and .u64 (c : Int) 4294967295 = (c : Int) := by
  have h2 := bits_mask .u64 64 (by decide) (fun n h0 h1 => by simp only [IntKind.wrap, IntKind.signed, IntKind.bits]; first | omega | (simp; omega)) 32 (by decide) (c : Int) (by omega) (by omega)
  simp only [Int.reducePow, Int.reduceSub] at h2
  rw [h2]; omega
theorem mul64_one (c : Nat) (hc : c < 4294967296) (w : World) : Calls Try.prog 15 #[.int .u64 1, .int .u64 (c : Nat)] w fun e w' => e = .returned (.tuple #[.int .u64 0, .int .u64 (c : Nat)]) ∧ w = w' := by
  have ha := u64_and32 c hc
  have h1 : bits .and .u64 1 4294967295 = 1 := by decide +kernel
  have h0 : bits .and .u64 0 4294967295 = 0 := by decide +kernel
  have hd : (c : Int) / 4294967296 = 0 := by omega
  have hw : IntKind.u64.wrap (c : Int) = (c : Int) := by simp only [IntKind.wrap, IntKind.signed, IntKind.bits]; first | omega | (simp; omega)
  have hw0 : IntKind.u64.wrap 0 = 0 := by decide +kernel
  have h64 : Calls Try.prog 17 #[.int .u64 1, .int .u64 (c : Nat)] w fun e w' => e = .returned (.tuple #[.int .u64 0, .int .u64 (c : Nat)]) ∧ w = w' := by
    go_enter Try.func17, Try.ntmps17
    go_wp2
    go_ret2
    exact ⟨rfl, rfl⟩
  go_enter Try.func15, Try.ntmps15
  go_wp2_with fail
  refine h64.mono ?_
  rintro e w' ⟨rfl, rfl⟩
  go_wp2
  go_ret2
  exact ⟨rfl, rfl⟩
section
variable {P : Program} {w : World} {ops : Array Oper} {o : Oper} {a : Act} {Q : Exit → Act → World → Prop} {K : Act → World → Prop} {E : Prop}
/-- copy of elements of two cells. -/
theorem run_copy_row2 (w : World) (dT sT ty elem : TypeId) (g o dLen dCap : Nat) (a : Addr) (sLen sCap : Nat) (cur : Array Value) (t : TypeId) (cs : List Value) (m : Nat)
    (hu : P.underlying dT = some (.slice elem)) (hs : (P.info? elem).map (·.size) = some 2)
    (hg : w.heap[g]? = some (.cells cur t (0, 0))) (hm : Nat.min sLen dLen = m) (hn : cs.length = m * 2)
    (hsrc : ∀ j v, cs[j]? = some v → w.cell? (a.add j) = some v) (hfit : o + cs.length ≤ cur.size) (h1 : ∀ v ∈ cs, v.oneCell' = true) :
    (Builtin.copy_ #[dT, sT] ty #[.slice (some ⟨g, o, none⟩) dLen dCap, .slice (some a) sLen sCap]).run P w =
      .ok (goInt m) (w.setRow g (cur.toList.take o ++ cs ++ cur.toList.drop (o + cs.length)).toArray) := by
  have hl := run_loadCells_list (P := P) w a cs hsrc
  have hst := run_storeCells_at P g o t cs 0 cur w hg (by simpa using hfit) h1
  rw [hn] at hl
  cases hq : P.info? elem with
  | none => simp [hq] at hs
  | some i =>
    have hi : i.size = 2 := by simpa [hq] using hs
    simp [Builtin.copy_, run_underlying hu, Builtin.lenOf, Builtin.firstCells, sizeOf, typeInfo, hq, hi, hm, hl, hst]
theorem run_copy_none2 (w : World) (dT sT ty elem : TypeId) (d a : Option Addr) (dLen dCap sLen sCap : Nat) (hu : P.underlying dT = some (.slice elem)) (hs : (P.info? elem).map (·.size) = some 2) (hn : Nat.min sLen dLen = 0) :
    (Builtin.copy_ #[dT, sT] ty #[.slice d dLen dCap, .slice a sLen sCap]).run P w = .ok (goInt 0) w := by
  cases hq : P.info? elem with
  | none => simp [hq] at hs
  | some i =>
    have hl : ∀ (x : Addr), (loadCells x 0).run P w = .ok #[] w := fun x => by simpa using run_loadCells_list (P := P) w x [] (by simp)
    cases d <;> cases a <;> simp [Builtin.copy_, run_underlying hu, Builtin.lenOf, Builtin.firstCells, sizeOf, typeInfo, hq, hn, storeCells, hl]
/-- The same, as one step of a region that draws. -/
theorem step_copy2 (hg : o.guard = none) (d s : Operand) (dT sT : TypeId) (ho : o.op = .call { callee := .builtin .copy, args := #[d, s], argTypes := #[dT, sT] }) (elem : TypeId) (hu : P.underlying dT = some (.slice elem)) (hsz : (P.info? elem).map (·.size) = some 2)
    (g off dLen dCap : Nat) (ad : Addr) (sLen sCap : Nat) (hd : a.eval d = .slice (some ⟨g, off, none⟩) dLen dCap) (hs : a.eval s = .slice (some ad) sLen sCap)
    (cur : Array Value) (t : TypeId) (hrow : w.heap[g]? = some (.cells cur t (0, 0))) (cs : List Value) (m : Nat) (hm : Nat.min sLen dLen = m) (hn : cs.length = m * 2)
    (hsrc : ∀ j v, cs[j]? = some v → w.cell? (ad.add j) = some v) (hfit : off + cs.length ≤ cur.size) (h1 : ∀ v ∈ cs, v.oneCell' = true)
    (hK : K (a.put o.dst (goInt m)) (w.setRow g (cur.toList.take off ++ cs ++ cur.toList.drop (off + cs.length)).toArray)) :
    if Region.wanted o (yielded ops a.tmps) = true then Oper.wp P o a w K Q else E := by
  have hw : Region.wanted o (yielded ops a.tmps) = true := by simp [Region.wanted, hg]
  rw [if_pos hw]
  have hrun := run_copy_row2 (P := P) w dT sT o.type elem g off dLen dCap ad sLen sCap cur t cs m hu hsz hrow hm hn hsrc hfit h1
  unfold Oper.wp
  simp [execOp, ho, resolve, invoke, builtin, hd, hs, hrun, Result.andThen]
  rw [List.append_assoc] at hK
  have hU : ∀ r : Result Next, r = Result.ok (Next.value (goInt m)) (w.setRow g (cur.toList.take off ++ (cs ++ cur.toList.drop (off + cs.length))).toArray) → Oper.upon P o a K Q r := fun r hr => by
    subst hr
    simp only [Oper.upon]
    exact hK
  first | exact hK | (refine hU _ ?_; simp) | simpa using hU _ rfl
end
theorem tks_take (l : List Tok) (k : Nat) : (tks l).take (k * 2) = tks (l.take k) := by
  induction l generalizing k with
  | nil => simp [tks]
  | cons a r ih =>
    cases k with
    | zero => simp [tks]
    | succ k =>
      have e1 : (k + 1) * 2 = k * 2 + 1 + 1 := by omega
      have e2 : tks (a :: r) = .int .i64 a.1 :: .int .i64 a.2 :: tks r := rfl
      have e3 : tks (a :: r.take k) = .int .i64 a.1 :: .int .i64 a.2 :: tks (r.take k) := rfl
      rw [e1, e2, List.take_succ_cons, List.take_succ_cons, ih k, List.take_succ_cons, e3]
theorem tks_drop (l : List Tok) (k : Nat) : (tks l).drop (k * 2) = tks (l.drop k) := by
  induction l generalizing k with
  | nil => simp [tks]
  | cons a r ih =>
    cases k with
    | zero => simp
    | succ k =>
      have e1 : (k + 1) * 2 = k * 2 + 1 + 1 := by omega
      have e2 : tks (a :: r) = .int .i64 a.1 :: .int .i64 a.2 :: tks r := rfl
      rw [e1, e2, List.drop_succ_cons, List.drop_succ_cons, ih k, List.drop_succ_cons]
theorem tks_zeros (n : Nat) : tks (List.replicate n (0, 0)) = List.replicate (n * 2) (.int .i64 0) := by
  rw [List.eq_replicate_iff]
  refine ⟨by rw [tks_length, List.length_replicate], fun b hb => ?_⟩
  simp only [tks, List.mem_flatMap, List.mem_replicate] at hb
  obtain ⟨o, ⟨_, rfl⟩, ho⟩ := hb
  simp at ho
  exact ho
theorem made_toks (n : Nat) : (madeCells #[.int .i64 0, .int .i64 0] (n * 2)).toList = tks (List.replicate n (0, 0)) := by
  rw [made_all _ _ (.int .i64 0) (by simp) (fun i hi => by
    match i, hi with
    | 0, _ => rfl
    | 1, _ => rfl), tks_zeros]
def RrPost (w : World) (c : Tok) (n : Nat) (e : Ending) (w' : World) : Prop := ∃ v, e = .returned v ∧ w'.ownsRow w.heap.size 29 2 v n (tks (List.replicate n c)) ∧ Below w.heap.size w w'
/-- What has been filled of a new row. -/
structure RrX (w wr : World) (c : Tok) (n k : Nat) : Prop where
  row : wr.heap[w.heap.size]? = some (.cells (tks (List.replicate k c ++ List.replicate (n - k) (0, 0))).toArray 29 (0, 0))
  bel : Below w.heap.size w wr
theorem fillr_splice (c : Tok) (n k m : Nat) (hm : k + m ≤ n) : (tks (List.replicate k c ++ List.replicate (n - k) (0, 0))).take (k * 2) ++ (tks (List.replicate m c) ++ (tks (List.replicate k c ++ List.replicate (n - k) (0, 0))).drop (k * 2 + m * 2)) = tks (List.replicate (k + m) c ++ List.replicate (n - (k + m)) (0, 0)) := by
  rw [← Nat.add_mul, tks_take, tks_drop, ← tks_append, ← tks_append]
  congr 1
  rw [List.take_append_of_le_length (by simp), List.take_of_length_le (by simp), List.drop_append, List.drop_of_length_le (by simp)]
  simp only [List.nil_append, List.length_replicate, List.drop_replicate]
  rw [← List.append_assoc, List.replicate_append_replicate]
  congr 2; omega
theorem repr_src {w wr : World} {c : Tok} {n k m : Nat} (h : RrX w wr c n k) (hm2 : k + m ≤ n) (hm : m ≤ k) {j : Nat} {v : Value} (hj : (tks (List.replicate m c))[j]? = some v) : wr.drew.cell? ((⟨w.heap.size, 0, none⟩ : Addr).add j) = some v := by
  have h1 := cell_of_row wr w.heap.size j _ _ _ h.row
  have e : ((⟨w.heap.size, 0, none⟩ : Addr).add j) = ⟨w.heap.size, j, none⟩ := by
    simp [Addr.add]; omega
  have h2 : wr.drew.cell? ⟨w.heap.size, j, none⟩ = wr.cell? ⟨w.heap.size, j, none⟩ := rfl
  rw [e, h2, h1]
  have hl := (List.getElem?_eq_some_iff.1 hj).1
  have h3 : (tks (List.replicate k c ++ List.replicate (n - k) (0, 0)))[j]? = some v := by
    obtain ⟨d, rfl⟩ : ∃ d, k = m + d := ⟨k - m, by omega⟩
    rw [← List.replicate_append_replicate, List.append_assoc, tks_append, List.getElem?_append_left hl]
    exact hj
  simpa using h3
set_option maxRecDepth 100000 in
set_option maxHeartbeats 2000000 in
theorem repRun_any (g : Nat) (c : Tok) (n : Nat) (w : World) (h : w.cell? ⟨g, 0, none⟩ = some (.int .i64 c.1)) (h' : w.cell? ⟨g, 1, none⟩ = some (.int .i64 c.2)) (hgl : g < w.heap.size) (hn : n ≤ 1000000) :
    Calls Try.prog 14 #[.slice (some ⟨g, 0, none⟩) 1 1, .int .i64 (n : Nat)] w (RrPost w c n) := by
  have hwn : IntKind.u64.wrap (n : Int) = (n : Int) := by simp only [IntKind.wrap, IntKind.signed, IntKind.bits]; first | omega | (simp; omega)
  have d0 : decide ((n : Int) < 0) = false := by simp
  have d1 : decide ((9223372036854775807 : Int) < (n : Int)) = false := by simp; omega
  have hH := Lib.hid h
  have hH' := Lib.hid h'
  clear h h'
  go_enter Try.func14, Try.ntmps14
  go_wp2_with fail
  refine (mul64_one n (by omega) w).mono ?_
  rintro e w' ⟨rfl, rfl⟩
  go_wp2_with (at_make; refine wpl_make_full tyR rfl _ _ rfl w.heap.size .i64 .i64 _ _ n rfl rfl rfl rfl (by omega) (by omega) (Nat.le_refl _) ?_)
  intro w1 own1 hg1
  have hb1 : Below w.heap.size w w1 := (Below.refl _ _).grown hg1 (Nat.le_refl _) (by simp)
  have own1 : w1.ownsRow w.heap.size 29 2 (.slice (some ⟨w.heap.size, 0, none⟩) n n) n (tks (List.replicate n (0, 0))) := by rw [← made_toks]; exact own1
  by_cases hn0 : n = 0
  · subst hn0
    have hO := Lib.hid (And.intro own1 hb1)
    have hrun : (Builtin.copy_ #[23, 23] 3 #[.slice (some ⟨w.heap.size, 0, none⟩) 0 0, .slice (some ⟨g, 0, none⟩) 1 1]).run Try.prog w1 = .ok (.int .i64 0) w1 :=
      run_copy_none2 (P := Try.prog) w1 23 23 3 29 _ _ 0 0 1 1 Try.underlying23 (by kernel_rfl) rfl
    clear own1 hg1 hb1
    go_wp2
    go_loop [8] (fun i => i = .int .i64 0) (fun _ => 0)
    case atStart => rfl
    case round =>
      obtain rfl := hrel
      go_wp2
      go_ret
      exact ⟨_, rfl, hO.out.1, hO.out.2⟩
  have hrow1 : w1.heap[w.heap.size]? = some (.cells (tks (List.replicate n (0, 0))).toArray 29 (0, 0)) := by
    rcases own1.2 with ⟨h1, _⟩ | ⟨g2, cap2, cur, h1, _, hg, _, _, hsz, hcur⟩
    · simp at h1
    · simp only [Value.slice.injEq, Option.some.injEq, Addr.mk.injEq, and_true, true_and] at h1
      obtain ⟨rfl, rfl⟩ := h1
      have e3 : cur = (tks (List.replicate n (0, 0))).toArray := by
        apply Array.ext'
        rw [List.take_of_length_le (by rw [Array.length_toList, hsz]; exact Nat.le_refl _)] at hcur
        rw [hcur]
      rw [← e3]; exact hg
  have hc1 : w1.cell? ⟨g, 0, none⟩ = some (.int .i64 c.1) := (hb1.cell (p := ⟨g, 0, none⟩) hgl).trans hH.out
  have hc2 : w1.cell? ⟨g, 1, none⟩ = some (.int .i64 c.2) := (hb1.cell (p := ⟨g, 1, none⟩) hgl).trans hH'.out
  have hbl := Lib.hid hb1
  have HR1 := Lib.hid hrow1
  have HC1 := Lib.hid hc1
  have HC2 := Lib.hid hc2
  clear own1 hg1 hb1 hrow1 hc1 hc2 hH hH'
  obtain ⟨w2, hrun, HR⟩ : ∃ w2, (Builtin.copy_ #[23, 23] 3 #[.slice (some ⟨w.heap.size, 0, none⟩) n n, .slice (some ⟨g, 0, none⟩) 1 1]).run Try.prog w1 = .ok (.int .i64 1) w2 ∧ Hid (RrX w w2 c n 1) := by
    have h1 := run_copy_row2 (P := Try.prog) w1 23 23 3 29 w.heap.size 0 n n ⟨g, 0, none⟩ 1 1 (tks (List.replicate n (0, 0))).toArray 29 (tks [c]) 1 Try.underlying23 (by kernel_rfl) HR1.out (by show min 1 n = 1; omega) rfl (fun j v hj => by
      match j, hj with
      | 0, hj => cases hj; exact HC1.out
      | 1, hj => cases hj; exact HC2.out) (by simp [tks_length]; omega) (tks_one [c])
    refine ⟨_, h1, Lib.hid ⟨?_, below_setRow (B := w.heap.size) (w0 := w) (g := w.heap.size) hbl.out (Nat.le_refl _) _⟩⟩
    have e : (((tks (List.replicate n (0, 0))).toArray).toList.take 0 ++ tks [c] ++ ((tks (List.replicate n (0, 0))).toArray).toList.drop (0 + (tks [c]).length)) = tks (List.replicate 1 c ++ List.replicate (n - 1) (0, 0)) := by
      have := fillr_splice c n 0 1 (by omega)
      simpa [tks_length] using this
    rw [← e]
    exact setRow_heap _ _ _ _ _ _ HR1.out
  go_wp2
  go_loopw [8] (fun i wr => ∃ k : Nat, 1 ≤ k ∧ k ≤ n ∧ i = .int .i64 k ∧ Hid (RrX w wr c n k)) (fun i _ => n - (intOf i).toNat)
  case atStart => exact ⟨1, by omega, by omega, rfl, HR⟩
  case round =>
    obtain ⟨k, hk1, hk, rfl, HK⟩ := hrel
    by_cases hlt : k < n
    · have hnk : (n = k) = False := by simp; omega
      obtain ⟨m, hmE, hm1, hm2⟩ : ∃ m, m = min k (n - k) ∧ 0 < m ∧ k + m ≤ n := ⟨min k (n - k), rfl, by omega, by omega⟩
      have hmk : m ≤ k := by omega
      have hmH := Lib.hid hmE
      clear hmE
      have hwr : IntKind.i64.wrap ((k : Int) + (m : Int)) = ((k + m : Nat) : Int) := by simp only [IntKind.wrap, IntKind.signed, IntKind.bits]; first | omega | (simp; omega)
      have hHX : RrX w (wr.drew.setRow w.heap.size (List.take (k * 2) (tks (List.replicate k c ++ List.replicate (n - k) (0, 0))) ++ (tks (List.replicate m c) ++ List.drop (k * 2 + m * 2) (tks (List.replicate k c ++ List.replicate (n - k) (0, 0))))).toArray) c n (k + m) := by
        refine ⟨?_, below_setRow (B := w.heap.size) (w0 := w) (g := w.heap.size) HK.out.bel.drew (Nat.le_refl _) _⟩
        rw [fillr_splice c n k m hm2]
        exact setRow_heap wr.drew _ _ _ _ _ HK.out.row
      have hH2 := Lib.hid hHX
      clear hHX
      go_wp2_with fail
      go_region_law (refine step_copy2 rfl (.tmp 41) (.tmp 44) 23 23 rfl 29 Try.underlying23 (by kernel_rfl) w.heap.size (k * 2) (n - k) (n - k) ⟨w.heap.size, 0, none⟩ k n (by simp [Act.eval, Act.put, hnk]) (by simp [Act.eval, Act.put]) _ 29 HK.out.row (tks (List.replicate m c)) m (by have := hmH.out; show min k (n - k) = m; omega) (by rw [tks_length, List.length_replicate]) (fun j v hj => repr_src HK.out hm2 hmk hj) (by simp [tks_length]; omega) (tks_one _) ?_)
      simp only [List.getElem_toArray, List.getElem_cons_zero, List.getElem_cons_succ, Act.put, List.setIfInBounds_toArray, List.set_cons_zero, List.set_cons_succ]
      rw [tks_length, List.length_replicate]
      go_roundw
      case rel => exact ⟨_, _, _, _, _, _, _, _, _, _, _, _, _, _, ⟨k + m, by omega, hm2, by go_num, hH2⟩, rfl⟩
      case measure => simp [intOf]; omega
    · obtain rfl : k = n := by omega
      go_wp2
      go_ret
      refine ⟨_, rfl, ⟨by simp [tks_length], .inr ⟨w.heap.size, k, _, rfl, Nat.le_refl _, HK.out.row, by omega, by unfold maxLen; omega, ?_, ?_⟩⟩, HK.out.bel⟩
      · simp [tks_length]
      · simp [List.take_of_length_le, tks_length]
end Go.Proofs.Ytlbngaeimkhkgaa
