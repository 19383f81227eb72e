/- slices.Repeat of one number, any number of times: its contract. slices.Repeat of one 1, none or one time: its contract. -/
import Derived.Test.YtjjbgdmalefdlaaGreatDoorZ14
import Derived.Test.YtjjbgdmalefdlaaGreatDoorZ19
import Derived.Laws.CopyOwn
import Derived.Deep.QuietTactic
import Derived.Deep.RegionLaw
import Derived.BigQuiet
set_option linter.unusedSimpArgs false
set_option linter.unusedVariables false
section
namespace Go.Proofs.YtjjbgdmalefdlaaGreatDoor
open Go.RowKit
set_option linter.unusedSimpArgs false

theorem u64_and32r (c : Nat) (h : c < 4294967296) : bits .and .u64 (c : Int) 4294967295 = (c : Int) := by
  have h2 := bits_mask .u64 64 (by decide) (fun n h0 h1 => by simp only [IntKind.wrap, IntKind.signed, IntKind.bits]; first | omega | (simp; omega)) 32 (by decide) (c : Int) (by omega) (by omega)
  simp only [Int.reducePow, Int.reduceSub] at h2
  rw [h2]; omega
theorem mul64_oner (c : Nat) (hc : c < 4294967296) (w : World) : Calls Tryz.prog 111 #[.int .u64 1, .int .u64 (c : Nat)] w fun e w' => e = .returned (.tuple #[.int .u64 0, .int .u64 (c : Nat)]) ∧ w = w' := by
  have ha := u64_and32r c hc
  have h1 : bits .and .u64 1 4294967295 = 1 := by decide +kernel
  have h0 : bits .and .u64 0 4294967295 = 0 := by decide +kernel
  have hd : (c : Int) / 4294967296 = 0 := by omega
  have hw : IntKind.u64.wrap (c : Int) = (c : Int) := by simp only [IntKind.wrap, IntKind.signed, IntKind.bits]; first | omega | (simp; omega)
  have hw0 : IntKind.u64.wrap 0 = 0 := by decide +kernel
  have h64 : Calls Tryz.prog 118 #[.int .u64 1, .int .u64 (c : Nat)] w fun e w' => e = .returned (.tuple #[.int .u64 0, .int .u64 (c : Nat)]) ∧ w = w' := by
    go_enter Tryz.func118, Tryz.ntmps118
    go_wp2
    go_ret2
    exact ⟨rfl, rfl⟩
  go_enter Tryz.func111, Tryz.ntmps111
  go_wp2_with fail
  refine h64.mono ?_
  rintro e w' ⟨rfl, rfl⟩
  go_wp2
  go_ret2
  exact ⟨rfl, rfl⟩
section
variable {P : Program} {w : World} {ops : Array Oper} {o : Oper} {a : Act} {Q : Exit → Act → World → Prop} {K : Act → World → Prop} {E : Prop}
/-- copy, as one step of a region that draws. -/
theorem step_copy (hg : o.guard = none) (d s : Operand) (dT sT : TypeId) (ho : o.op = .call { callee := .builtin .copy, args := #[d, s], argTypes := #[dT, sT] }) (elem : TypeId) (hu : P.underlying dT = some (.slice elem)) (hsz : (P.info? elem).map (·.size) = some 1)
    (g off dLen dCap : Nat) (ad : Addr) (sLen sCap : Nat) (hd : a.eval d = .slice (some ⟨g, off, none⟩) dLen dCap) (hs : a.eval s = .slice (some ad) sLen sCap)
    (cur : Array Value) (t : TypeId) (hrow : w.heap[g]? = some (.cells cur t (0, 0))) (cs : List Value) (hn : cs.length = Nat.min sLen dLen)
    (hsrc : ∀ j v, cs[j]? = some v → w.cell? (ad.add j) = some v) (hfit : off + cs.length ≤ cur.size) (h1 : ∀ v ∈ cs, v.oneCell' = true)
    (hK : K (a.put o.dst (goInt cs.length)) (w.setRow g (cur.toList.take off ++ cs ++ cur.toList.drop (off + cs.length)).toArray)) :
    if Region.wanted o (yielded ops a.tmps) = true then Oper.wp P o a w K Q else E := by
  have hw : Region.wanted o (yielded ops a.tmps) = true := by simp [Region.wanted, hg]
  rw [if_pos hw]
  have hrun := run_copy_row (P := P) w dT sT o.type elem g off dLen dCap ad sLen sCap cur t cs hu hsz hrow hn hsrc hfit h1
  unfold Oper.wp
  simp [execOp, ho, resolve, invoke, builtin, hd, hs, hrun, Result.andThen]
  rw [List.append_assoc] at hK
  have hU : ∀ r : Result Next, r = Result.ok (Next.value (goInt cs.length)) (w.setRow g (cur.toList.take off ++ (cs ++ cur.toList.drop (off + cs.length))).toArray) → Oper.upon P o a K Q r := fun r hr => by
    subst hr
    simp only [Oper.upon]
    exact hK
  first | exact hK | (refine hU _ ?_; simp) | simpa using hU _ rfl
end
def RpPost (w : World) (c : Int) (n : Nat) (e : Ending) (w' : World) : Prop := ∃ v, e = .returned v ∧ w'.ownsRow w.heap.size 3 1 v n (ivs (List.replicate n c)) ∧ Below w.heap.size w w'
/-- What has been filled of a new row. -/
structure RpX (w wr : World) (c : Int) (n k : Nat) : Prop where
  row : wr.heap[w.heap.size]? = some (.cells (ivs (List.replicate k c ++ List.replicate (n - k) 0)).toArray 3 (0, 0))
  bel : Below w.heap.size w wr
theorem fill_splice (c : Int) (n k m : Nat) (hm : k + m ≤ n) : (List.replicate k c ++ List.replicate (n - k) 0).take k ++ (List.replicate m c ++ (List.replicate k c ++ List.replicate (n - k) 0).drop (k + m)) = List.replicate (k + m) c ++ List.replicate (n - (k + m)) 0 := by
  rw [List.take_append_of_le_length (by simp), List.take_of_length_le (by simp), List.drop_append, List.drop_of_length_le (by simp)]
  simp only [List.nil_append, List.length_replicate, List.drop_replicate]
  rw [← List.append_assoc, List.replicate_append_replicate]
  congr 2; omega
theorem rep_src {w wr : World} {c : Int} {n k m : Nat} (h : RpX w wr c n k) (hm2 : k + m ≤ n) (hm : m = min k (n - k)) {j : Nat} {v : Value} (hj : (List.replicate m (Value.int .i64 c))[j]? = some v) : wr.drew.cell? ((⟨w.heap.size, 0, none⟩ : Addr).add j) = some v := by
  obtain ⟨hj1, hj2⟩ := List.getElem?_eq_some_iff.1 hj
  simp only [List.length_replicate] at hj1
  simp only [List.getElem_replicate] at hj2
  subst hj2
  have h1 := cell_of_row wr w.heap.size j _ _ _ h.row
  have e : ((⟨w.heap.size, 0, none⟩ : Addr).add j) = ⟨w.heap.size, j, none⟩ := by
    simp [Addr.add]; omega
  have h2 : wr.drew.cell? ⟨w.heap.size, j, none⟩ = wr.cell? ⟨w.heap.size, j, none⟩ := rfl
  rw [e, h2, h1]
  have h3 : (ivs (List.replicate k c ++ List.replicate (n - k) 0))[j]? = some (.int .i64 c) := by
    unfold ivs
    rw [List.getElem?_map, List.getElem?_append_left (by rw [List.length_replicate]; omega), List.getElem?_replicate, if_pos (by omega)]
    rfl
  simpa using h3
set_option maxRecDepth 100000 in
set_option maxHeartbeats 2000000 in
theorem repeat_any (g : Nat) (c : Int) (n : Nat) (w : World) (h : w.cell? ⟨g, 0, none⟩ = some (.int .i64 c)) (hgl : g < w.heap.size) (hn : n ≤ 1000000) :
    Calls Tryz.prog 96 #[.slice (some ⟨g, 0, none⟩) 1 1, .int .i64 (n : Nat)] w (RpPost w c n) := by
  have hwn : IntKind.u64.wrap (n : Int) = (n : Int) := by simp only [IntKind.wrap, IntKind.signed, IntKind.bits]; first | omega | (simp; omega)
  have d0 : decide ((n : Int) < 0) = false := by simp
  have d1 : decide ((9223372036854775807 : Int) < (n : Int)) = false := by simp; omega
  have hH := Lib.hid h
  clear h
  go_enter Tryz.func96, Tryz.ntmps96
  go_wp2_with fail
  refine (mul64_oner n (by omega) w).mono ?_
  rintro e w' ⟨rfl, rfl⟩
  go_wp2_with (at_make; refine wpl_make_full tyI rfl _ _ rfl w.heap.size .i64 .i64 _ _ n rfl rfl rfl rfl (by omega) (by omega) (Nat.le_refl _) ?_)
  intro w1 own1 hg1
  have hb1 : Below w.heap.size w w1 := (Below.refl _ _).grown hg1 (Nat.le_refl _) (by simp)
  by_cases hn0 : n = 0
  · subst hn0
    have hO := Lib.hid (And.intro own1 hb1)
    clear own1 hg1 hb1
    go_wp2_with (with_reducible refine wpList_copy_nothing rfl _ _ _ _ rfl 3 Tryz.underlying53 (by kernel_rfl) _ _ _ _ _ _ rfl rfl rfl ?_)
    go_wp2
    go_loop [8] (fun i => i = .int .i64 0) (fun _ => 0)
    case atStart => rfl
    case round =>
      obtain rfl := hrel
      go_wp2
      go_ret
      exact ⟨_, rfl, by have := hO.out.1; simpa [madeCells, ivs] using this, hO.out.2⟩
  have hrow1 : w1.heap[w.heap.size]? = some (.cells (ivs (List.replicate n 0)).toArray 3 (0, 0)) := by
    have e2 := made_ints1 n
    rw [Nat.mul_one] at e2
    rcases own1.2 with ⟨h1, _⟩ | ⟨g2, cap2, cur, h1, _, hg, _, _, hsz, hcur⟩
    · simp at h1
    · simp only [Value.slice.injEq, Option.some.injEq, Addr.mk.injEq, and_true, true_and] at h1
      obtain ⟨rfl, rfl⟩ := h1
      have e3 : cur = (ivs (List.replicate n 0)).toArray := by
        apply Array.ext'
        rw [Nat.mul_one] at hsz
        have := own1.1
        simp only [Nat.mul_one] at hcur
        rw [List.take_of_length_le (by rw [Array.length_toList, hsz]; exact Nat.le_refl _)] at hcur
        rw [hcur]
        first | exact e2 | (simpa using e2)
      rw [← e3]; exact hg
  have hc1 : w1.cell? ⟨g, 0, none⟩ = some (.int .i64 c) := (hb1.cell (p := ⟨g, 0, none⟩) hgl).trans hH.out
  have HX : Hid (∀ xs, w1.setRow w.heap.size xs = w1.setRow w.heap.size xs) := Lib.hid (fun _ => rfl)
  have hbl := Lib.hid hb1
  have HR1 := Lib.hid hrow1
  have HC1 := Lib.hid hc1
  clear own1 hg1 hb1 hrow1 hc1 hH HX
  obtain ⟨w2, hrun, HR⟩ : ∃ w2, (Builtin.copy_ #[53, 53] 3 #[.slice (some ⟨w.heap.size, 0, none⟩) n n, .slice (some ⟨g, 0, none⟩) 1 1]).run Tryz.prog w1 = .ok (.int .i64 1) w2 ∧ Hid (RpX w w2 c n 1) := by
    have h1 := run_copy_row (P := Tryz.prog) w1 53 53 3 3 w.heap.size 0 n n ⟨g, 0, none⟩ 1 1 (ivs (List.replicate n 0)).toArray 3 [.int .i64 c] Tryz.underlying53 (by kernel_rfl) HR1.out (by show 1 = min 1 n; omega) (fun j v hj => by
      match j, hj with
      | 0, hj => cases hj; exact HC1.out) (by simp [ivs_length]; omega) (by intro v hv; simp at hv; subst hv; rfl)
    refine ⟨_, h1, Lib.hid ⟨?_, below_setRow (B := w.heap.size) (w0 := w) (g := w.heap.size) hbl.out (Nat.le_refl _) _⟩⟩
    have e : (((ivs (List.replicate n 0)).toArray).toList.take 0 ++ [Value.int .i64 c] ++ ((ivs (List.replicate n 0)).toArray).toList.drop (0 + [Value.int .i64 c].length)) = ivs (List.replicate 1 c ++ List.replicate (n - 1) 0) := by
      obtain ⟨m, rfl⟩ : ∃ m, n = m + 1 := ⟨n - 1, by omega⟩
      simp [ivs, List.replicate_succ]
    rw [← e]
    exact setRow_heap _ _ _ _ _ _ HR1.out
  go_wp2
  go_loopw [8] (fun i wr => ∃ k : Nat, 1 ≤ k ∧ k ≤ n ∧ i = .int .i64 k ∧ Hid (RpX w wr c n k)) (fun i _ => n - (intOf i).toNat)
  case atStart => exact ⟨1, by omega, by omega, rfl, HR⟩
  case round =>
    obtain ⟨k, hk1, hk, rfl, HK⟩ := hrel
    by_cases hlt : k < n
    · have hnk : (n = k) = False := by simp; omega
      obtain ⟨m, hmE, hm1, hm2⟩ : ∃ m, m = min k (n - k) ∧ 0 < m ∧ k + m ≤ n := ⟨min k (n - k), rfl, by omega, by omega⟩
      have hmH := Lib.hid hmE
      clear hmE
      have hwr : IntKind.i64.wrap ((k : Int) + (m : Int)) = ((k + m : Nat) : Int) := by simp only [IntKind.wrap, IntKind.signed, IntKind.bits]; first | omega | (simp; omega)
      have hHX : RpX w (wr.drew.setRow w.heap.size (List.take k (ivs (List.replicate k c ++ List.replicate (n - k) 0)) ++ (List.replicate m (Value.int .i64 c) ++ List.drop (k + m) (ivs (List.replicate k c ++ List.replicate (n - k) 0)))).toArray) c n (k + m) := by
        refine ⟨?_, below_setRow (B := w.heap.size) (w0 := w) (g := w.heap.size) HK.out.bel.drew (Nat.le_refl _) _⟩
        have e : List.take k (ivs (List.replicate k c ++ List.replicate (n - k) 0)) ++ (List.replicate m (Value.int .i64 c) ++ List.drop (k + m) (ivs (List.replicate k c ++ List.replicate (n - k) 0))) = ivs (List.replicate (k + m) c ++ List.replicate (n - (k + m)) 0) := by
          have := congrArg ivs (fill_splice c n k m hm2)
          simpa [ivs, List.map_take, List.map_drop] using this
        rw [e]
        exact setRow_heap wr.drew _ _ _ _ _ HK.out.row
      have hH2 := Lib.hid hHX
      clear hHX
      go_wp2_with fail
      go_region_law (refine step_copy rfl (.tmp 41) (.tmp 44) 53 53 rfl 3 Tryz.underlying53 (by kernel_rfl) w.heap.size k (n - k) (n - k) ⟨w.heap.size, 0, none⟩ k n (by simp [Act.eval, Act.put, hnk]) (by simp [Act.eval, Act.put]) _ 3 HK.out.row (List.replicate m (Value.int .i64 c)) (by simpa using hmH.out) (fun j v hj => rep_src HK.out hm2 hmH.out hj) (by simp [ivs]; omega) (by intro v hv; simp at hv; rw [hv.2]; rfl) ?_)
      simp only [List.getElem_toArray, List.getElem_cons_zero, List.getElem_cons_succ, Act.put, List.setIfInBounds_toArray, List.set_cons_zero, List.set_cons_succ]
      go_roundw
      case rel => exact ⟨_, _, _, _, _, _, _, _, _, _, _, _, _, _, ⟨k + m, by omega, hm2, by go_num, hH2⟩, rfl⟩
      case measure => simp [intOf]; omega
    · obtain rfl : k = n := by omega
      go_wp2
      go_ret
      refine ⟨_, rfl, ⟨by simp [ivs], .inr ⟨w.heap.size, k, _, rfl, Nat.le_refl _, HK.out.row, by omega, by unfold maxLen; omega, ?_, ?_⟩⟩, HK.out.bel⟩
      · simp [ivs]
      · simp [ivs]
end Go.Proofs.YtjjbgdmalefdlaaGreatDoor
end

section
namespace Go.Proofs.YtjjbgdmalefdlaaGreatDoor
open Go.RowKit

theorem mul64_any (c : Int) (hc : c = 0 ∨ c = 1) (w : World) : Calls Tryz.prog 111 #[.int .u64 1, .int .u64 c] w fun e w' => e = .returned (.tuple #[.int .u64 0, .int .u64 c]) ∧ w = w' := by
  have h64 : ∀ (c : Int) (w : World), (c = 0 ∨ c = 1) → Calls Tryz.prog 118 #[.int .u64 1, .int .u64 c] w fun e w' => e = .returned (.tuple #[.int .u64 0, .int .u64 c]) ∧ w = w' := by
    intro c w hc
    rcases hc with rfl | rfl
    · go_enter Tryz.func118, Tryz.ntmps118
      go_wp2
      go_ret2
      exact ⟨rfl, rfl⟩
    · go_enter Tryz.func118, Tryz.ntmps118
      go_wp2
      go_ret2
      exact ⟨rfl, rfl⟩
  go_enter Tryz.func111, Tryz.ntmps111
  go_wp2_with fail
  refine (h64 c _ hc).mono ?_
  rintro e w' ⟨rfl, rfl⟩
  go_wp2
  go_ret2
  exact ⟨rfl, rfl⟩
def RepPost (w : World) (n : Nat) (e : Ending) (w' : World) : Prop := ∃ v, e = .returned v ∧ w'.ownsRow w.heap.size 3 1 v n (ivs (List.replicate n 1)) ∧ Below w.heap.size w w'
set_option maxHeartbeats 1000000 in
theorem repeat0_any (g : Nat) (w : World) (h : w.cell? ⟨g, 0, none⟩ = some (.int .i64 1)) : Calls Tryz.prog 96 #[.slice (some ⟨g, 0, none⟩) 1 1, .int .i64 0] w (RepPost w 0) := by
  go_enter Tryz.func96, Tryz.ntmps96
  go_wp2_with fail
  refine (mul64_any 0 (.inl rfl) w).mono ?_
  rintro e w' ⟨rfl, rfl⟩
  go_wp2_with (at_make; refine wpl_make_full tyI rfl _ _ rfl w.heap.size .i64 .i64 _ _ 0 rfl rfl rfl rfl (by omega) (by omega) (Nat.le_refl _) ?_)
  intro w1 own1 hg1
  have hb1 : Below w.heap.size w w1 := (Below.refl _ _).grown hg1 (Nat.le_refl _) (by simp)
  have hO := Lib.hid (And.intro own1 hb1)
  clear own1 hg1 hb1
  go_wp2_with (with_reducible refine wpList_copy_nothing rfl _ _ _ _ rfl 3 Tryz.underlying53 (by kernel_rfl) _ _ _ _ _ _ rfl rfl rfl ?_)
  go_wp2
  go_loop [8] (fun i => i = .int .i64 0) (fun _ => 0)
  case atStart => rfl
  case round =>
    obtain rfl := hrel
    go_wp2
    go_ret
    exact ⟨_, rfl, by have := hO.out.1; simpa [madeCells, ivs] using this, hO.out.2⟩
set_option maxHeartbeats 1000000 in
set_option maxRecDepth 100000 in
theorem repeat1_any (g : Nat) (w : World) (h : w.cell? ⟨g, 0, none⟩ = some (.int .i64 1)) (hgl : g < w.heap.size) : Calls Tryz.prog 96 #[.slice (some ⟨g, 0, none⟩) 1 1, .int .i64 1] w (RepPost w 1) := by
  go_enter Tryz.func96, Tryz.ntmps96
  go_wp2_with fail
  refine (mul64_any 1 (.inr rfl) w).mono ?_
  rintro e w' ⟨rfl, rfl⟩
  go_wp2_with (at_make; refine wpl_make_full tyI rfl _ _ rfl w.heap.size .i64 .i64 _ _ 1 rfl rfl rfl rfl (by omega) (by omega) (Nat.le_refl _) ?_)
  intro w1 own1 hg1
  have hb1 : Below w.heap.size w w1 := (Below.refl _ _).grown hg1 (Nat.le_refl _) (by simp)
  obtain ⟨cur, hcz, hrow⟩ : ∃ cur : List Value, cur.length = 1 ∧ w1.heap[w.heap.size]? = some (.cells cur.toArray 3 (0, 0)) := by
    rcases own1.2 with ⟨h1, _⟩ | ⟨g2, cap2, cur, h1, _, hg, _, _, hsz, _⟩
    · simp at h1
    · simp only [Value.slice.injEq, Option.some.injEq, Addr.mk.injEq, and_true, true_and] at h1
      obtain ⟨rfl, rfl⟩ := h1
      exact ⟨cur.toList, by simpa using hsz, by simpa using hg⟩
  have hc : w1.cell? ⟨g, 0, none⟩ = some (.int .i64 1) := (hb1.cell (p := ⟨g, 0, none⟩) hgl).trans h
  have hO := Lib.hid (And.intro hrow (And.intro hb1 hcz))
  have hC := Lib.hid hc
  clear own1 hg1 hb1 hrow hcz hc h
  obtain ⟨w2, hrun, HR⟩ : ∃ w2, (Builtin.copy_ #[53, 53] 3 #[.slice (some ⟨w.heap.size, 0, none⟩) 1 1, .slice (some ⟨g, 0, none⟩) 1 1]).run Tryz.prog w1 = .ok (.int .i64 1) w2 ∧ Hid (w2.heap[w.heap.size]? = some (.cells #[.int .i64 1] 3 (0, 0)) ∧ Below w.heap.size w w2) := by
    have e : (cur.toArray.toList.take 0 ++ [Value.int .i64 1] ++ cur.toArray.toList.drop (0 + [Value.int .i64 1].length)).toArray = #[.int .i64 1] := by
      match cur, hO.out.2.2 with
      | [x], _ => rfl
    have h1 := run_copy_row (P := Tryz.prog) w1 53 53 3 3 w.heap.size 0 1 1 ⟨g, 0, none⟩ 1 1 cur.toArray 3 [.int .i64 1] Tryz.underlying53 (by kernel_rfl) hO.out.1 rfl (fun j v hj => by
      match j, hj with
      | 0, hj => cases hj; exact hC.out) (by simp [hO.out.2.2]) (by intro v hv; simp at hv; subst hv; rfl)
    rw [e] at h1
    exact ⟨_, h1, Lib.hid ⟨setRow_heap _ _ _ _ _ _ hO.out.1, below_setRow (B := w.heap.size) (w0 := w) (g := w.heap.size) hO.out.2.1 (Nat.le_refl _) _⟩⟩
  go_wp2
  go_loop [8] (fun i => i = .int .i64 1) (fun _ => 0)
  case atStart => rfl
  case round =>
    obtain rfl := hrel
    go_wp2
    go_ret
    refine ⟨_, rfl, ⟨by simp [ivs], .inr ⟨w.heap.size, 1, _, rfl, Nat.le_refl _, HR.out.1, by omega, by unfold maxLen; omega, ?_, ?_⟩⟩, HR.out.2⟩
    · rfl
    · rfl
end Go.Proofs.YtjjbgdmalefdlaaGreatDoor
end
