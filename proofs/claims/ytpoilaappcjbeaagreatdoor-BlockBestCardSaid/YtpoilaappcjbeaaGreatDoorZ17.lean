/- slices.Repeat of one number, any number of times: its contract. slices.Grow at nil, and slices.Concat of any number of lists: their contracts. Slices of items. merge.nextRound: its contract. -/
import Derived.Test.YtpoilaappcjbeaaGreatDoorZ16
import Derived.Laws.CopyOwn
import Derived.Deep.QuietTactic
import Derived.Deep.RegionLaw
import Derived.BigQuiet
import Derived.Lib.AppendZeros
import Derived.Deep.LoopGhost
import Derived.Deep.DeepCutAuto
set_option linter.unusedSimpArgs false
set_option linter.unusedVariables false
section
namespace Go.Proofs.YtpoilaappcjbeaaGreatDoor
open Go.RowKit
set_option linter.unusedSimpArgs false

theorem u64_and32r (c : Nat) (h : c < 4294967296) : bits .and .u64 (c : Int) 4294967295 = (c : Int) := by
  have h2 := bits_mask .u64 64 (by decide) (fun n h0 h1 => by simp only [IntKind.wrap, IntKind.signed, IntKind.bits]; first | omega | (simp; omega)) 32 (by decide) (c : Int) (by omega) (by omega)
  simp only [Int.reducePow, Int.reduceSub] at h2
  rw [h2]; omega
theorem mul64_oner (c : Nat) (hc : c < 4294967296) (w : World) : Calls Tryz.prog 111 #[.int .u64 1, .int .u64 (c : Nat)] w fun e w' => e = .returned (.tuple #[.int .u64 0, .int .u64 (c : Nat)]) ∧ w = w' := by
  have ha := u64_and32r c hc
  have h1 : bits .and .u64 1 4294967295 = 1 := by decide +kernel
  have h0 : bits .and .u64 0 4294967295 = 0 := by decide +kernel
  have hd : (c : Int) / 4294967296 = 0 := by omega
  have hw : IntKind.u64.wrap (c : Int) = (c : Int) := by simp only [IntKind.wrap, IntKind.signed, IntKind.bits]; first | omega | (simp; omega)
  have hw0 : IntKind.u64.wrap 0 = 0 := by decide +kernel
  have h64 : Calls Tryz.prog 118 #[.int .u64 1, .int .u64 (c : Nat)] w fun e w' => e = .returned (.tuple #[.int .u64 0, .int .u64 (c : Nat)]) ∧ w = w' := by
    go_enter Tryz.func118, Tryz.ntmps118
    go_wp2
    go_ret2
    exact ⟨rfl, rfl⟩
  go_enter Tryz.func111, Tryz.ntmps111
  go_wp2_with fail
  refine h64.mono ?_
  rintro e w' ⟨rfl, rfl⟩
  go_wp2
  go_ret2
  exact ⟨rfl, rfl⟩
section
variable {P : Program} {w : World} {ops : Array Oper} {o : Oper} {a : Act} {Q : Exit → Act → World → Prop} {K : Act → World → Prop} {E : Prop}
/-- copy, as one step of a region that draws. -/
theorem step_copy (hg : o.guard = none) (d s : Operand) (dT sT : TypeId) (ho : o.op = .call { callee := .builtin .copy, args := #[d, s], argTypes := #[dT, sT] }) (elem : TypeId) (hu : P.underlying dT = some (.slice elem)) (hsz : (P.info? elem).map (·.size) = some 1)
    (g off dLen dCap : Nat) (ad : Addr) (sLen sCap : Nat) (hd : a.eval d = .slice (some ⟨g, off, none⟩) dLen dCap) (hs : a.eval s = .slice (some ad) sLen sCap)
    (cur : Array Value) (t : TypeId) (hrow : w.heap[g]? = some (.cells cur t (0, 0))) (cs : List Value) (hn : cs.length = Nat.min sLen dLen)
    (hsrc : ∀ j v, cs[j]? = some v → w.cell? (ad.add j) = some v) (hfit : off + cs.length ≤ cur.size) (h1 : ∀ v ∈ cs, v.oneCell' = true)
    (hK : K (a.put o.dst (goInt cs.length)) (w.setRow g (cur.toList.take off ++ cs ++ cur.toList.drop (off + cs.length)).toArray)) :
    if Region.wanted o (yielded ops a.tmps) = true then Oper.wp P o a w K Q else E := by
  have hw : Region.wanted o (yielded ops a.tmps) = true := by simp [Region.wanted, hg]
  rw [if_pos hw]
  have hrun := run_copy_row (P := P) w dT sT o.type elem g off dLen dCap ad sLen sCap cur t cs hu hsz hrow hn hsrc hfit h1
  unfold Oper.wp
  simp [execOp, ho, resolve, invoke, builtin, hd, hs, hrun, Result.andThen]
  rw [List.append_assoc] at hK
  have hU : ∀ r : Result Next, r = Result.ok (Next.value (goInt cs.length)) (w.setRow g (cur.toList.take off ++ (cs ++ cur.toList.drop (off + cs.length))).toArray) → Oper.upon P o a K Q r := fun r hr => by
    subst hr
    simp only [Oper.upon]
    exact hK
  first | exact hK | (refine hU _ ?_; simp) | simpa using hU _ rfl
end
def RpPost (w : World) (c : Int) (n : Nat) (e : Ending) (w' : World) : Prop := ∃ v, e = .returned v ∧ w'.ownsRow w.heap.size 3 1 v n (ivs (List.replicate n c)) ∧ Below w.heap.size w w'
/-- What has been filled of a new row. -/
structure RpX (w wr : World) (c : Int) (n k : Nat) : Prop where
  row : wr.heap[w.heap.size]? = some (.cells (ivs (List.replicate k c ++ List.replicate (n - k) 0)).toArray 3 (0, 0))
  bel : Below w.heap.size w wr
theorem fill_splice (c : Int) (n k m : Nat) (hm : k + m ≤ n) : (List.replicate k c ++ List.replicate (n - k) 0).take k ++ (List.replicate m c ++ (List.replicate k c ++ List.replicate (n - k) 0).drop (k + m)) = List.replicate (k + m) c ++ List.replicate (n - (k + m)) 0 := by
  rw [List.take_append_of_le_length (by simp), List.take_of_length_le (by simp), List.drop_append, List.drop_of_length_le (by simp)]
  simp only [List.nil_append, List.length_replicate, List.drop_replicate]
  rw [← List.append_assoc, List.replicate_append_replicate]
  congr 2; omega
theorem rep_src {w wr : World} {c : Int} {n k m : Nat} (h : RpX w wr c n k) (hm2 : k + m ≤ n) (hm : m = min k (n - k)) {j : Nat} {v : Value} (hj : (List.replicate m (Value.int .i64 c))[j]? = some v) : wr.drew.cell? ((⟨w.heap.size, 0, none⟩ : Addr).add j) = some v := by
  obtain ⟨hj1, hj2⟩ := List.getElem?_eq_some_iff.1 hj
  simp only [List.length_replicate] at hj1
  simp only [List.getElem_replicate] at hj2
  subst hj2
  have h1 := cell_of_row wr w.heap.size j _ _ _ h.row
  have e : ((⟨w.heap.size, 0, none⟩ : Addr).add j) = ⟨w.heap.size, j, none⟩ := by
    simp [Addr.add]; omega
  have h2 : wr.drew.cell? ⟨w.heap.size, j, none⟩ = wr.cell? ⟨w.heap.size, j, none⟩ := rfl
  rw [e, h2, h1]
  have h3 : (ivs (List.replicate k c ++ List.replicate (n - k) 0))[j]? = some (.int .i64 c) := by
    unfold ivs
    rw [List.getElem?_map, List.getElem?_append_left (by rw [List.length_replicate]; omega), List.getElem?_replicate, if_pos (by omega)]
    rfl
  simpa using h3
set_option maxRecDepth 100000 in
set_option maxHeartbeats 2000000 in
theorem repeat_any (g : Nat) (c : Int) (n : Nat) (w : World) (h : w.cell? ⟨g, 0, none⟩ = some (.int .i64 c)) (hgl : g < w.heap.size) (hn : n ≤ 1000000) :
    Calls Tryz.prog 96 #[.slice (some ⟨g, 0, none⟩) 1 1, .int .i64 (n : Nat)] w (RpPost w c n) := by
  have hwn : IntKind.u64.wrap (n : Int) = (n : Int) := by simp only [IntKind.wrap, IntKind.signed, IntKind.bits]; first | omega | (simp; omega)
  have d0 : decide ((n : Int) < 0) = false := by simp
  have d1 : decide ((9223372036854775807 : Int) < (n : Int)) = false := by simp; omega
  have hH := Lib.hid h
  clear h
  go_enter Tryz.func96, Tryz.ntmps96
  go_wp2_with fail
  refine (mul64_oner n (by omega) w).mono ?_
  rintro e w' ⟨rfl, rfl⟩
  go_wp2_with (at_make; refine wpl_make_full tyI rfl _ _ rfl w.heap.size .i64 .i64 _ _ n rfl rfl rfl rfl (by omega) (by omega) (Nat.le_refl _) ?_)
  intro w1 own1 hg1
  have hb1 : Below w.heap.size w w1 := (Below.refl _ _).grown hg1 (Nat.le_refl _) (by simp)
  by_cases hn0 : n = 0
  · subst hn0
    have hO := Lib.hid (And.intro own1 hb1)
    clear own1 hg1 hb1
    go_wp2_with (with_reducible refine wpList_copy_nothing rfl _ _ _ _ rfl 3 Tryz.underlying53 (by kernel_rfl) _ _ _ _ _ _ rfl rfl rfl ?_)
    go_wp2
    go_loop [8] (fun i => i = .int .i64 0) (fun _ => 0)
    case atStart => rfl
    case round =>
      obtain rfl := hrel
      go_wp2
      go_ret
      exact ⟨_, rfl, by have := hO.out.1; simpa [madeCells, ivs] using this, hO.out.2⟩
  have hrow1 : w1.heap[w.heap.size]? = some (.cells (ivs (List.replicate n 0)).toArray 3 (0, 0)) := by
    have e2 := made_ints1 n
    rw [Nat.mul_one] at e2
    rcases own1.2 with ⟨h1, _⟩ | ⟨g2, cap2, cur, h1, _, hg, _, _, hsz, hcur⟩
    · simp at h1
    · simp only [Value.slice.injEq, Option.some.injEq, Addr.mk.injEq, and_true, true_and] at h1
      obtain ⟨rfl, rfl⟩ := h1
      have e3 : cur = (ivs (List.replicate n 0)).toArray := by
        apply Array.ext'
        rw [Nat.mul_one] at hsz
        have := own1.1
        simp only [Nat.mul_one] at hcur
        rw [List.take_of_length_le (by rw [Array.length_toList, hsz]; exact Nat.le_refl _)] at hcur
        rw [hcur]
        first | exact e2 | (simpa using e2)
      rw [← e3]; exact hg
  have hc1 : w1.cell? ⟨g, 0, none⟩ = some (.int .i64 c) := (hb1.cell (p := ⟨g, 0, none⟩) hgl).trans hH.out
  have HX : Hid (∀ xs, w1.setRow w.heap.size xs = w1.setRow w.heap.size xs) := Lib.hid (fun _ => rfl)
  have hbl := Lib.hid hb1
  have HR1 := Lib.hid hrow1
  have HC1 := Lib.hid hc1
  clear own1 hg1 hb1 hrow1 hc1 hH HX
  obtain ⟨w2, hrun, HR⟩ : ∃ w2, (Builtin.copy_ #[53, 53] 3 #[.slice (some ⟨w.heap.size, 0, none⟩) n n, .slice (some ⟨g, 0, none⟩) 1 1]).run Tryz.prog w1 = .ok (.int .i64 1) w2 ∧ Hid (RpX w w2 c n 1) := by
    have h1 := run_copy_row (P := Tryz.prog) w1 53 53 3 3 w.heap.size 0 n n ⟨g, 0, none⟩ 1 1 (ivs (List.replicate n 0)).toArray 3 [.int .i64 c] Tryz.underlying53 (by kernel_rfl) HR1.out (by show 1 = min 1 n; omega) (fun j v hj => by
      match j, hj with
      | 0, hj => cases hj; exact HC1.out) (by simp [ivs_length]; omega) (by intro v hv; simp at hv; subst hv; rfl)
    refine ⟨_, h1, Lib.hid ⟨?_, below_setRow (B := w.heap.size) (w0 := w) (g := w.heap.size) hbl.out (Nat.le_refl _) _⟩⟩
    have e : (((ivs (List.replicate n 0)).toArray).toList.take 0 ++ [Value.int .i64 c] ++ ((ivs (List.replicate n 0)).toArray).toList.drop (0 + [Value.int .i64 c].length)) = ivs (List.replicate 1 c ++ List.replicate (n - 1) 0) := by
      obtain ⟨m, rfl⟩ : ∃ m, n = m + 1 := ⟨n - 1, by omega⟩
      simp [ivs, List.replicate_succ]
    rw [← e]
    exact setRow_heap _ _ _ _ _ _ HR1.out
  go_wp2
  go_loopw [8] (fun i wr => ∃ k : Nat, 1 ≤ k ∧ k ≤ n ∧ i = .int .i64 k ∧ Hid (RpX w wr c n k)) (fun i _ => n - (intOf i).toNat)
  case atStart => exact ⟨1, by omega, by omega, rfl, HR⟩
  case round =>
    obtain ⟨k, hk1, hk, rfl, HK⟩ := hrel
    by_cases hlt : k < n
    · have hnk : (n = k) = False := by simp; omega
      obtain ⟨m, hmE, hm1, hm2⟩ : ∃ m, m = min k (n - k) ∧ 0 < m ∧ k + m ≤ n := ⟨min k (n - k), rfl, by omega, by omega⟩
      have hmH := Lib.hid hmE
      clear hmE
      have hwr : IntKind.i64.wrap ((k : Int) + (m : Int)) = ((k + m : Nat) : Int) := by simp only [IntKind.wrap, IntKind.signed, IntKind.bits]; first | omega | (simp; omega)
      have hHX : RpX w (wr.drew.setRow w.heap.size (List.take k (ivs (List.replicate k c ++ List.replicate (n - k) 0)) ++ (List.replicate m (Value.int .i64 c) ++ List.drop (k + m) (ivs (List.replicate k c ++ List.replicate (n - k) 0)))).toArray) c n (k + m) := by
        refine ⟨?_, below_setRow (B := w.heap.size) (w0 := w) (g := w.heap.size) HK.out.bel.drew (Nat.le_refl _) _⟩
        have e : List.take k (ivs (List.replicate k c ++ List.replicate (n - k) 0)) ++ (List.replicate m (Value.int .i64 c) ++ List.drop (k + m) (ivs (List.replicate k c ++ List.replicate (n - k) 0))) = ivs (List.replicate (k + m) c ++ List.replicate (n - (k + m)) 0) := by
          have := congrArg ivs (fill_splice c n k m hm2)
          simpa [ivs, List.map_take, List.map_drop] using this
        rw [e]
        exact setRow_heap wr.drew _ _ _ _ _ HK.out.row
      have hH2 := Lib.hid hHX
      clear hHX
      go_wp2_with fail
      go_region_law (refine step_copy rfl (.tmp 41) (.tmp 44) 53 53 rfl 3 Tryz.underlying53 (by kernel_rfl) w.heap.size k (n - k) (n - k) ⟨w.heap.size, 0, none⟩ k n (by simp [Act.eval, Act.put, hnk]) (by simp [Act.eval, Act.put]) _ 3 HK.out.row (List.replicate m (Value.int .i64 c)) (by simpa using hmH.out) (fun j v hj => rep_src HK.out hm2 hmH.out hj) (by simp [ivs]; omega) (by intro v hv; simp at hv; rw [hv.2]; rfl) ?_)
      simp only [List.getElem_toArray, List.getElem_cons_zero, List.getElem_cons_succ, Act.put, List.setIfInBounds_toArray, List.set_cons_zero, List.set_cons_succ]
      go_roundw
      case rel => exact ⟨_, _, _, _, _, _, _, _, _, _, _, _, _, _, ⟨k + m, by omega, hm2, by go_num, hH2⟩, rfl⟩
      case measure => simp [intOf]; omega
    · obtain rfl : k = n := by omega
      go_wp2
      go_ret
      refine ⟨_, rfl, ⟨by simp [ivs], .inr ⟨w.heap.size, k, _, rfl, Nat.le_refl _, HK.out.row, by omega, by unfold maxLen; omega, ?_, ?_⟩⟩, HK.out.bel⟩
      · simp [ivs]
      · simp [ivs]
end Go.Proofs.YtpoilaappcjbeaaGreatDoor
end

section
namespace Go.Proofs.YtpoilaappcjbeaaGreatDoor
open Go.RowKit

def GrowPost (w : World) (e : Ending) (w' : World) : Prop :=
  ∃ cap, e = .returned (.slice (some ⟨w.heap.size, 0, none⟩) 0 cap) ∧ w'.ownsRow w.heap.size 3 1 (.slice (some ⟨w.heap.size, 0, none⟩) 0 cap) 0 [] ∧ Below w.heap.size w w'
set_option maxHeartbeats 2000000 in
set_option maxRecDepth 100000 in
theorem grow_any (n : Nat) (w : World) (h1 : 1 ≤ n) (hn : n ≤ 1000000) :
    Calls Tryz.prog 105 #[.slice none 0 0, .int .i64 (n : Nat)] w (GrowPost w) := by
  obtain ⟨i0, hi, hz0, hz1, hz2⟩ := info_parts tyI.info
  have happ := fun ty => Lib.run_append_nil_zeros (P := Tryz.prog) w 53 3 ty 3 i0 (.int .i64 0) .i64 .i64 tyI.ht (by kernel_rfl) hi hz0 n (by omega) (by omega) (by omega) (by rw [hz2]; omega)
  have hge := grownCap_ge w n 0 3
  have hle := grownCap_le_maxLen w n 0 3 (by unfold maxLen; omega)
  generalize grownCap w n 0 3 = c at *
  obtain ⟨cs, hcs⟩ : ∃ cs, Builtin.zeroCells (Value.int .i64 0).cells n ++ Builtin.zeroCells (Value.int .i64 0).cells (c - n) = cs := ⟨_, rfl⟩
  have hsz : cs.size = c := by
    rw [← hcs, Array.size_append, size_zeroCells, size_zeroCells]
    have : (Value.int .i64 0).cells.size = 1 := rfl
    rw [this]; omega
  rw [hcs] at happ
  clear hcs
  have d0 : decide ((n : Int) < 0) = false := by simp
  have d1 : decide (0 < (n : Int)) = true := by simp; omega
  go_enter Tryz.func105, Tryz.ntmps105
  go_wp2_with (at_builtin; refine Lib.wpList_append_run _ rfl _ _ _ _ rfl _ _ rfl rfl _ _ (happ _) ?_)
  go_wp2
  go_ret
  refine ⟨c, rfl, ⟨rfl, .inr ⟨w.heap.size, c, cs, rfl, Nat.le_refl _, heap_alloc_last w.drew _, by omega, hle, by rw [hsz, Nat.mul_one], by simp⟩⟩, ?_⟩
  exact below_then (below_alloc w (.cells cs 3)) (drewN_is _ 1)
def ConcatPost (w : World) (n : Nat) (l : List Int) (e : Ending) (w' : World) : Prop :=
  ∃ v, e = .returned v ∧ w'.ownsRow w.heap.size 3 1 v n (ivs l) ∧ Below w.heap.size w w'
/-- A part: where it lies, and what it is. -/
abbrev Cp := Option Addr × Nat × Nat × List Int
def cat (ps : List Cp) (k : Nat) : List Int := (ps.take k).flatMap fun c => c.2.2.2
theorem cat_succ {ps : List Cp} {k : Nat} {c : Cp} (h : ps[k]? = some c) : cat ps (k + 1) = cat ps k ++ c.2.2.2 := by
  obtain ⟨hk, rfl⟩ := List.getElem?_eq_some_iff.1 h
  unfold cat
  rw [List.take_succ_eq_append_getElem hk, List.flatMap_append]
  simp
theorem cat_le (ps : List Cp) (k : Nat) : (cat ps k).length ≤ (cat ps ps.length).length := by
  have e : cat ps ps.length = cat ps k ++ (ps.drop k).flatMap fun c => c.2.2.2 := by
    unfold cat
    rw [List.take_length, ← List.flatMap_append, List.take_append_drop]
  rw [e, List.length_append]; omega
/-- The parts, as they lie in a slice of slices. -/
def CatParts (w : World) (g : Nat) (ps : List Cp) : Prop := ∀ k a la ca l, ps[k]? = some (a, la, ca, l) → w.cell? ⟨g, k, none⟩ = some (.slice a la ca) ∧ Is .i64 w a la ca l
set_option maxHeartbeats 2000000 in
set_option maxRecDepth 100000 in
theorem concat_all (g n : Nat) (ps : List Cp) (w : World) (hg : g < w.heap.size) (hpl : ps.length = n) (hP : CatParts w g ps) (hn0 : n ≤ 1000) (h1 : 1 ≤ (cat ps n).length) (hn : (cat ps n).length ≤ 1000000) :
    Calls Tryz.prog 86 #[.slice (some ⟨g, 0, none⟩) n n] w (ConcatPost w (cat ps n).length (cat ps n)) := by
  have HP := Lib.hid hP
  have HL : Hid (∀ k, (cat ps k).length ≤ (cat ps n).length) := Lib.hid (fun k => by rw [← hpl]; exact cat_le ps k)
  have HN := Lib.hid hpl
  have HB := Lib.hid hn
  clear hP hpl
  go_enter Tryz.func86, Tryz.ntmps86
  go_wp2
  go_loop [3, 11] (fun s i => ∃ k m : Nat, k ≤ n ∧ i = .int .i64 (k : Nat) ∧ s = .int .i64 (m : Nat) ∧ Hid (m = (cat ps k).length)) (fun _ i => n - (intOf i).toNat)
  case atStart => exact ⟨0, 0, by omega, rfl, rfl, Lib.hid rfl⟩
  case round =>
    obtain ⟨k, m, hk, rfl, rfl, HM⟩ := hrel
    by_cases hlt : k < n
    · obtain ⟨a, la, ca, l, hps⟩ : ∃ a la ca l, ps[k]? = some (a, la, ca, l) := ⟨_, _, _, _, List.getElem?_eq_getElem (by rw [HN.out]; exact hlt)⟩
      obtain ⟨c0, hI⟩ := HP.out k a la ca l hps
      have hs := cat_succ hps
      have hml : m + la = (cat ps (k + 1)).length := by rw [hs, List.length_append, hI.hlen, HM.out]
      have hmb : m + la ≤ 1000000 := by have := HL.out (k + 1); omega
      have HM2 := Lib.hid hml
      have c1 : w.cell? ⟨g, 0 + k, none⟩ = some (.slice a la ca) := by rw [Nat.zero_add]; exact c0
      have d0 : decide (((m : Nat) : Int) + ((la : Nat) : Int) < 0) = false := by simp; omega
      clear hps hI hs hml
      go_wp2
      go_round
      case rel => exact ⟨k + 1, m + la, by omega, by go_num, by go_num, HM2⟩
      case measure => simp [intOf]; omega
    · obtain rfl : k = n := by omega
      have hm1 : 1 ≤ m ∧ m ≤ 1000000 := by have := HM.out; omega
      clear h1 hn
      go_wp2_with fail
      refine (grow_any m w hm1.1 hm1.2).mono ?_
      rintro e w1 ⟨cap, rfl, own1, hb1⟩
      have HX : Hid (w1.ownsRow w.heap.size 3 1 (.slice (some ⟨w.heap.size, 0, none⟩) 0 cap) 0 (ivs (cat ps 0)) ∧ Below w.heap.size w w1 ∧ 0 = (cat ps 0).length) := Lib.hid ⟨own1, hb1, rfl⟩
      clear own1 hb1
      go_wp2
      go_loopw [6, 27] (fun v i wr => ∃ j q : Nat, j ≤ k ∧ i = .int .i64 (j : Nat) ∧ Hid (wr.ownsRow w.heap.size 3 1 v q (ivs (cat ps j)) ∧ Below w.heap.size w wr ∧ q = (cat ps j).length)) (fun _ i _ => k - (intOf i).toNat)
      case atStart => exact ⟨0, 0, by omega, rfl, HX⟩
      case round =>
        obtain ⟨j, q, hj, rfl, HO⟩ := hrel
        have hzr := HO.out.2.1.size
        by_cases hlt : j < k
        · obtain ⟨a, la, ca, l, hps⟩ : ∃ a la ca l, ps[j]? = some (a, la, ca, l) := ⟨_, _, _, _, List.getElem?_eq_getElem (by rw [HN.out]; exact hlt)⟩
          obtain ⟨c0, hI⟩ := HP.out j a la ca l hps
          have hs := cat_succ hps
          have hml : q + la = (cat ps (j + 1)).length := by rw [hs, List.length_append, hI.hlen, HO.out.2.2]
          have hmb : q + la ≤ 1000000 := by have := HL.out (j + 1); have := HB.out; omega
          have c2 : wr.cell? ⟨g, j, none⟩ = some (.slice a la ca) := (HO.out.2.1.cell (p := ⟨g, j, none⟩) hg).trans c0
          have c1 : wr.cell? ⟨g, 0 + j, none⟩ = some (.slice a la ca) := by rw [Nat.zero_add]; exact c2
          have HS := Lib.hid (hI.mono HO.out.2.1).src
          have HE := Lib.hid (And.intro hs hml)
          clear hps hI hs hml c0
          go_wp2_with (at_builtin; refine wpl_append tyI rfl _ _ rfl HO.out.1 HS.out rfl rfl (by omega) (by omega) (by omega) ?_)
          intro v' w' own' hg' _
          have hb' : Below w.heap.size w w' := HO.out.2.1.grown hg' hzr (fun q hq => (HO.out.1.lt q hq).1)
          rw [← ivs_append, ← HE.out.1] at own'
          have HK2 := Lib.hid (And.intro own' (And.intro hb' HE.out.2))
          clear own' hb' hg' HO c1 c2 HS HE
          go_wp2
          go_roundw
          case rel => exact ⟨j + 1, q + la, by omega, by go_num, HK2⟩
          case measure => simp [intOf]; omega
        · obtain rfl : j = k := by omega
          have HF : Hid (∀ v, wr.ownsRow w.heap.size 3 1 v q (ivs (cat ps j)) → ConcatPost w (cat ps j).length (cat ps j) (.returned v) wr) := Lib.hid (fun v h => ⟨v, rfl, by rw [← HO.out.2.2]; exact h, HO.out.2.1⟩)
          have HO1 := Lib.hid HO.out.1
          clear HO
          go_wp2
          go_ret
          exact HF.out _ HO1.out
end Go.Proofs.YtpoilaappcjbeaaGreatDoor
end

section
namespace Go.Proofs.YtpoilaappcjbeaaGreatDoor
open Go.RowKit
open Mg (Itm)

/-- Items as cells. -/
def itv (A : List Itm) : List Value := A.flatMap fun x => [.int .i64 x.1, .bool x.2]
theorem itv_length (A : List Itm) : (itv A).length = A.length * 2 := by
  induction A with
  | nil => rfl
  | cons x A ih => simp [itv] at ih ⊢; omega
theorem itv_append (A B : List Itm) : itv (A ++ B) = itv A ++ itv B := by simp [itv]
theorem itv_get (A : List Itm) : ∀ i, i < A.length → (itv A)[i * 2]? = some (.int .i64 (A.getD i (0, false)).1) ∧ (itv A)[i * 2 + 1]? = some (.bool (A.getD i (0, false)).2) := by
  induction A with
  | nil => intro i h; simp at h
  | cons x A ih =>
    intro i h
    cases i with
    | zero => simp [itv]
    | succ i =>
      have := ih i (by simpa using h)
      have e : itv (x :: A) = .int .i64 x.1 :: .bool x.2 :: itv A := by simp [itv]
      rw [e, show (i + 1) * 2 = i * 2 + 1 + 1 by omega]
      simpa using this
theorem itv_one (A : List Itm) : ∀ u ∈ itv A, u.oneCell' = true := by
  intro u hu
  simp only [itv, List.mem_flatMap] at hu
  obtain ⟨x, _, hx⟩ := hu
  simp at hx
  rcases hx with rfl | rfl <;> rfl
/-- A slice of items. -/
structure Its (w : World) (a : Option Addr) (len cap : Nat) (A : List Itm) : Prop where
  hlen : A.length = len
  hle : len ≤ cap
  hnil : a = none → cap = 0
  at' : ∀ i, i < len → ∃ b off, a = some ⟨b, off, none⟩ ∧ b < w.heap.size ∧ w.cell? ⟨b, off + i * 2, none⟩ = some (.int .i64 (A.getD i (0, false)).1) ∧ w.cell? ⟨b, off + (i * 2 + 1), none⟩ = some (.bool (A.getD i (0, false)).2)
theorem Its.mono {w w' : World} {a : Option Addr} {len cap : Nat} {A : List Itm} (h : Its w a len cap A) (hb : Below w.heap.size w w') : Its w' a len cap A :=
  ⟨h.hlen, h.hle, h.hnil, fun i hi => by
    obtain ⟨b, off, e, hlt, h1, h2⟩ := h.at' i hi
    exact ⟨b, off, e, Nat.lt_of_lt_of_le hlt hb.size, by rw [hb.cell (p := ⟨b, off + i * 2, none⟩) hlt]; exact h1, by rw [hb.cell (p := ⟨b, off + (i * 2 + 1), none⟩) hlt]; exact h2⟩⟩
theorem Its.drop {w : World} {b off len cap : Nat} {A : List Itm} (h : Its w (some ⟨b, off, none⟩) len cap A) (s : Nat) (hs : s ≤ len) (ao : Option Addr) (hao : ¬ cap = s → ao = some ⟨b, off + s * 2, none⟩) : Its w ao (len - s) (cap - s) (A.drop s) := by
  have h1 := h.hlen
  have h2 := h.hle
  refine ⟨by simp; omega, by omega, fun e => ?_, fun i hi => ?_⟩
  · by_cases hc : cap = s
    · omega
    · rw [hao hc] at e; simp at e
  · obtain ⟨b', off', e', hb', c1, c2⟩ := h.at' (s + i) (by omega)
    simp only [Option.some.injEq, Addr.mk.injEq, and_true] at e'
    obtain ⟨rfl, rfl⟩ := e'
    refine ⟨b, off + s * 2, hao (by omega), hb', ?_, ?_⟩
    · rw [show off + s * 2 + i * 2 = off + (s + i) * 2 by omega, c1]; simp [List.getD, List.getElem?_drop]
    · rw [show off + s * 2 + (i * 2 + 1) = off + ((s + i) * 2 + 1) by omega, c2]; simp [List.getD, List.getElem?_drop]
theorem its_nil (w : World) : Its w none 0 0 [] := ⟨rfl, Nat.le_refl _, fun _ => rfl, fun i hi => absurd hi (by omega)⟩
theorem own_its {w : World} {base : Nat} {e : TypeId} {v : Value} {n : Nat} {A : List Itm} (h : w.ownsRow base e 2 v n (itv A)) : ∃ a cap, v = .slice a n cap ∧ Its w a n cap A := by
  have hn : A.length = n := by have := h.1; rw [itv_length] at this; omega
  rcases own_nil_or h with ⟨rfl, rfl⟩ | ⟨g, cap, rfl, hle, _⟩
  · have : A = [] := List.eq_nil_of_length_eq_zero hn
    subst this
    exact ⟨none, 0, rfl, its_nil w⟩
  · refine ⟨_, cap, rfl, hn, hle, fun e => by simp at e, fun i hi => ⟨g, 0, rfl, (h.lt g rfl).2, ?_, ?_⟩⟩
    · obtain ⟨t0, _⟩ := itv_get A i (by omega)
      rw [Nat.zero_add, h.cellAt (i * 2) (by omega)]; exact t0
    · obtain ⟨_, t1⟩ := itv_get A i (by omega)
      rw [Nat.zero_add, h.cellAt (i * 2 + 1) (by omega)]; exact t1
theorem tyIt : RowTy Tryz.prog 180 186 (.agg #[.int .i64 0, .bool false]) 2 16 := ⟨Tryz.underlying180, by kernel_rfl, rfl, by omega⟩
theorem src_item (w : World) (x : Int) (b : Bool) : SrcRow (w.alloc (.cells #[.int .i64 x, .bool b] 186)) (some ⟨w.heap.size, 0, none⟩) 1 1 (itv [(x, b)]) 2 :=
  src_new w #[.int .i64 x, .bool b] 186 1 1 2 rfl (by intro u hu; simp at hu; rcases hu with rfl | rfl <;> rfl)
/-- A slice of numbers, from some place on. -/
theorem Is.tail {k : IntKind} {w : World} {b off len cap : Nat} {l : List Int} (h : Is k w (some ⟨b, off, none⟩) len cap l) (s : Nat) (hs : s ≤ len) (ao : Option Addr) (hao : ¬ cap = s → ao = some ⟨b, off + s, none⟩) : Is k w ao (len - s) (cap - s) (l.drop s) := by
  have h1 := h.hlen
  have h2 := h.hle
  refine ⟨by simp; omega, by omega, fun e => ?_, fun i hi => ?_, fun n hn => h.wf n (List.mem_of_mem_drop hn)⟩
  · by_cases hc : cap = s
    · omega
    · rw [hao hc] at e; simp at e
  · obtain ⟨b', off', e', hb', hc⟩ := h.at' (s + i) (by omega)
    simp only [Option.some.injEq, Addr.mk.injEq, and_true] at e'
    obtain ⟨rfl, rfl⟩ := e'
    refine ⟨b, off + s, hao (by omega), hb', ?_⟩
    rw [Nat.add_assoc, hc]
    simp [List.getD, List.getElem?_drop]
end Go.Proofs.YtpoilaappcjbeaaGreatDoor
end

section
namespace Go.Proofs.YtpoilaappcjbeaaGreatDoor
open Go.RowKit
open Mg (Itm)

def NextPost (w : World) (R : List Int) (A : List Itm) (e : Ending) (w' : World) : Prop :=
  ∃ v, e = .returned v ∧ w'.ownsRow w.heap.size 186 2 v (R.length + A.length / 2) (itv (Mg.mrg R (Mg.pairs (Mg.wts A)))) ∧ Below w.heap.size w w'
/-- In the midst: what is left of both, and what is out. -/
structure NR (w wr : World) (R : List Int) (A : List Itm) (v0 v1 v5 : Value) (n0 n1 k cap : Nat) (R' : List Int) (A' : List Itm) (out : List Itm) : Prop where
  bel : Below w.heap.size w wr
  i0 : ∃ a c, v0 = .slice a n0 c ∧ Is .i64 w a n0 c R'
  i1 : ∃ a c, v1 = .slice a n1 c ∧ Its w a n1 c A'
  i5 : ∃ g, v5 = .slice (some ⟨g, 0, none⟩) k cap
  own : wr.ownsRow w.heap.size 186 2 v5 k (itv out)
  eq : out ++ Mg.mrg R' (Mg.pairs (Mg.wts A')) = Mg.mrg R (Mg.pairs (Mg.wts A))
  pos : ∀ x ∈ Mg.wts A', 0 ≤ x ∧ x ≤ 1152921504606846976
/-- A symbol goes out. -/
theorem NR.sym {w wr w3 : World} {R : List Int} {A : List Itm} {v1 : Value} {a0 : Option Addr} {n0 n1 k cap c0 g : Nat} {r : Int} {R' : List Int} {A' out : List Itm} (h : NR w wr R A (.slice a0 n0 c0) v1 (.slice (some ⟨g, 0, none⟩) k cap) n0 n1 k cap (r :: R') A' out)
    (hle : Mg.mrg (r :: R') (Mg.pairs (Mg.wts A')) = (r, true) :: Mg.mrg R' (Mg.pairs (Mg.wts A'))) (hb : Below w.heap.size w w3) (o : w3.ownsRow w.heap.size 186 2 (.slice (some ⟨g, 0, none⟩) (k + 1) cap) (k + 1) (itv out ++ itv [(r, true)]))
    (ao : Option Addr) (hi : Is .i64 w ao (n0 - 1) (c0 - 1) R') : NR w w3 R A (.slice ao (n0 - 1) (c0 - 1)) v1 (.slice (some ⟨g, 0, none⟩) (k + 1) cap) (n0 - 1) n1 (k + 1) cap R' A' (out ++ [(r, true)]) :=
  ⟨hb, ⟨_, _, rfl, hi⟩, h.i1, ⟨_, rfl⟩, by rw [itv_append]; exact o, by rw [← h.eq, hle]; simp, h.pos⟩
/-- A package goes out. -/
theorem NR.pkg {w wr w3 : World} {R : List Int} {A : List Itm} {v0 v1 : Value} {n0 n1 k cap c1 g : Nat} {R' : List Int} {x y : Itm} {A' out : List Itm} (h : NR w wr R A v0 v1 (.slice (some ⟨g, 0, none⟩) k cap) n0 n1 k cap R' (x :: y :: A') out)
    (hle : Mg.mrg R' ((x.1 + y.1) :: Mg.pairs (Mg.wts A')) = (x.1 + y.1, false) :: Mg.mrg R' (Mg.pairs (Mg.wts A'))) (hb : Below w.heap.size w w3) (o : w3.ownsRow w.heap.size 186 2 (.slice (some ⟨g, 0, none⟩) (k + 1) cap) (k + 1) (itv out ++ itv [(x.1 + y.1, false)]))
    (ao : Option Addr) (hi : Its w ao (n1 - 2) (c1 - 2) A') : NR w w3 R A v0 (.slice ao (n1 - 2) (c1 - 2)) (.slice (some ⟨g, 0, none⟩) (k + 1) cap) n0 (n1 - 2) (k + 1) cap R' A' (out ++ [(x.1 + y.1, false)]) :=
  ⟨hb, h.i0, ⟨_, _, rfl, hi⟩, ⟨_, rfl⟩, by rw [itv_append]; exact o, by
    rw [← h.eq]
    have e : Mg.pairs (Mg.wts (x :: y :: A')) = (x.1 + y.1) :: Mg.pairs (Mg.wts A') := rfl
    rw [e, hle]; simp, fun z hz => h.pos z (by simp only [Mg.wts, List.map_cons, List.mem_cons]; exact .inr (.inr hz))⟩
theorem NR.mono {w wr w3 : World} {R : List Int} {A : List Itm} {v0 v1 v5 : Value} {n0 n1 k cap : Nat} {R' : List Int} {A' out : List Itm} (h : NR w wr R A v0 v1 v5 n0 n1 k cap R' A' out) (hb : Below wr.heap.size wr w3) : NR w w3 R A v0 v1 v5 n0 n1 k cap R' A' out :=
  ⟨below_then h.bel hb, h.i0, h.i1, h.i5, own_below h.own hb, h.eq, h.pos⟩
theorem NR.below {w wr w3 : World} {R : List Int} {A : List Itm} {v0 v1 v5 : Value} {n0 n1 k cap : Nat} {R' : List Int} {A' out : List Itm} {g : Nat} (h : NR w wr R A v0 v1 v5 n0 n1 k cap R' A' out) (hg : v5 = .slice (some ⟨g, 0, none⟩) k cap) {o : Obj} (hb : (wr.alloc o).grownBy w3 (some g)) : Below w.heap.size w w3 := by
  refine ((h.bel).alloc h.bel.size o).grown hb (by simp; have := h.bel.size; omega) (fun j hj => ?_)
  cases hj
  have := h.own
  rw [hg] at this
  exact (this.lt g rfl).1
set_option maxHeartbeats 4000000 in
set_option maxRecDepth 100000 in
theorem next_any (a : Option Addr) (len cap : Nat) (R : List Int) (a1 : Option Addr) (len1 cap1 : Nat) (A : List Itm) (w : World) (h : Is .i64 w a len cap R) (h1 : Its w a1 len1 cap1 A) (hl : len ≤ 1000) (hl1 : len1 ≤ 10000)
    (hA : ∀ x ∈ Mg.wts A, 0 ≤ x ∧ x ≤ 1152921504606846976) :
    Calls Tryz.prog 123 #[.slice a len cap, .slice a1 len1 cap1] w (NextPost w R A) := by
  have HL := Lib.hid h.hlen
  have HL1 := Lib.hid h1.hlen
  have H := Lib.hid h
  have H1 := Lib.hid h1
  have HP := Lib.hid hA
  clear h h1 hA
  have e2 : ((len1 : Int)).tdiv 2 = ((len1 / 2 : Nat) : Int) := by rw [Int.tdiv_eq_ediv_of_nonneg (by omega)]; omega
  go_enter Tryz.func123, Tryz.ntmps123
  go_wp2_with (at_make; refine wpl_make tyIt rfl _ _ rfl w.heap.size .i64 .i64 _ (len + len1 / 2) rfl rfl (by omega) (by omega) (by omega) (Nat.le_refl _) ?_)
  intro w1 own1 hg1
  have hb1 : Below w.heap.size w w1 := (Below.refl _ _).grown hg1 (Nat.le_refl _) (by simp)
  have HN : Hid (NR w w1 R A (.slice a len cap) (.slice a1 len1 cap1) (.slice (some ⟨w.heap.size, 0, none⟩) 0 (len + len1 / 2)) len len1 0 (len + len1 / 2) R A []) := Lib.hid ⟨hb1, ⟨_, _, rfl, H.out⟩, ⟨_, _, rfl, H1.out⟩, ⟨_, rfl⟩, own1, rfl, HP.out⟩
  obtain ⟨C, hC⟩ : ∃ C, C = len + len1 / 2 := ⟨_, rfl⟩
  rw [← hC] at HN
  clear own1 hg1 hb1 e2
  go_wp2
  rw [← hC]
  go_loopg [0, 1, 5] len1 (fun gk v0 v1 v5 wr => ∃ (n0 n1 k : Nat) (R' : List Int) (A' out : List Itm), n1 = gk ∧ n0 ≤ 1000 ∧ n1 ≤ 10000 ∧ k + (n0 + n1 / 2) = C ∧ Hid (NR w wr R A v0 v1 v5 n0 n1 k C R' A' out))
  case atStart => exact ⟨len, len1, 0, R, A, [], rfl, hl, hl1, by omega, HN⟩
  case round =>
    obtain ⟨n0, n1, k, R', A', out, rfl, hn0, hn1, hk, HR⟩ := hrel
    obtain ⟨a0, c0, rfl, hi0⟩ := HR.out.i0
    obtain ⟨b1, c1, rfl, hi1⟩ := HR.out.i1
    obtain ⟨g, rfl⟩ := HR.out.i5
    have HI0 := Lib.hid hi0
    have HI1 := Lib.hid hi1
    have hc1 := hi1.hle
    clear hi0 hi1
    by_cases hge : 2 ≤ n1
    · have dge : decide (2 ≤ (n1 : Int)) = true := by simp; omega
      obtain ⟨bb, oo, rfl, _, q0, _⟩ := (HI1.out.mono HR.out.bel).at' 0 (by omega)
      obtain ⟨bb', oo', hbe, _, q1, _⟩ := (HI1.out.mono HR.out.bel).at' 1 (by omega)
      simp only [Option.some.injEq, Addr.mk.injEq, and_true] at hbe
      obtain ⟨rfl, rfl⟩ := hbe
      have hA2 : ∃ x y A'', A' = x :: y :: A'' := by
        have hl := HI1.out.hlen
        match A', hl with
        | [], hl => simp at hl; omega
        | [_], hl => simp at hl; omega
        | x :: y :: A'', _ => exact ⟨x, y, A'', rfl⟩
      obtain ⟨x, y, A'', rfl⟩ := hA2
      obtain ⟨x, xb⟩ := x
      obtain ⟨y, yb⟩ := y
      have px := HR.out.pos x (by simp [Mg.wts])
      have py := HR.out.pos y (by simp [Mg.wts])
      have q0' : wr.cell? ⟨bb, oo, none⟩ = some (.int .i64 x) := q0
      have q1' : wr.cell? ⟨bb, oo + 2, none⟩ = some (.int .i64 y) := q1
      clear q0 q1
      clear HL HL1 H H1 HP HN hl hl1 hC
      go_wp2
      go_quiet (fail)
      go_wp2
      rename World => w0
      have HR0 := Lib.hid (HR.out.mono (drewN_is w0 nq))
      clear HR
      generalize w0.drewN nq = w0 at HR0 ⊢
      go_loopg [0, 5] n0 (fun gk v0 v5 wr => ∃ (m k2 : Nat) (R2 : List Int) (out2 : List Itm), m = gk ∧ m ≤ 1000 ∧ k2 + (m + n1 / 2) = C ∧ Hid (NR w wr R A v0 (.slice (some ⟨bb, oo, none⟩) n1 c1) v5 m n1 k2 C R2 ((x, xb) :: (y, yb) :: A'') out2))
      case atStart => exact ⟨n0, k, R', out, rfl, hn0, hk, HR0⟩
      case round =>
        obtain ⟨m, k2, R2, out2, rfl, hm, hk2, HQ⟩ := hrel
        obtain ⟨a2, c2, rfl, hi2⟩ := HQ.out.i0
        obtain ⟨g2, rfl⟩ := HQ.out.i5
        have HI2 := Lib.hid hi2
        have hc2 := hi2.hle
        clear hi2
        by_cases hm0 : m = 0
        · subst hm0
          have e : R2 = [] := List.eq_nil_of_length_eq_zero HI2.out.hlen
          subst e
          have HM := Lib.hid (show Mg.mrg [] ((x + y) :: Mg.pairs (Mg.wts A'')) = (x + y, false) :: Mg.mrg [] (Mg.pairs (Mg.wts A'')) from rfl)
          go_wp2_with (at_builtin; refine wpl_fits tyIt rfl _ _ rfl (own_below HQ.out.own (below_alloc wr _)) (src_item wr (x + y) false) rfl rfl (by omega) ?_)
          intro w3 own3 hg3
          have hb3 := HQ.out.below rfl hg3
          have HQ2 := Lib.hid (fun ao hao => HQ.out.pkg (w3 := w3) (c1 := c1) HM.out hb3 own3 ao (HI1.out.drop 2 hge ao hao))
          clear own3 hg3 hb3 HQ
          by_cases hcc : c1 = 2
          · obtain rfl : n1 = 2 := by omega
            obtain rfl : C = k2 + 1 := by omega
            subst hcc
            go_wp2
            go_roundg 0
            case rel => exact ⟨0, 0, k2 + 1, [], A'', _, rfl, hm, by omega, by omega, Lib.hid (HQ2.out _ (fun h => absurd trivial h))⟩
            case measure => omega
          · go_wp2
            go_roundg (n1 - 2)
            case rel => exact ⟨0, n1 - 2, k2 + 1, [], A'', _, rfl, hm, by omega, by omega, Lib.hid (HQ2.out _ (fun _ => rfl))⟩
            case measure => omega
        · have d0 : decide (0 < (m : Int)) = true := by simp; omega
          obtain ⟨b2, o2, rfl, _, q2⟩ := (HI2.out.mono HQ.out.bel).at' 0 (by omega)
          obtain ⟨r, R3, rfl⟩ : ∃ r R3, R2 = r :: R3 := by
            have hl := HI2.out.hlen
            cases R2 with
            | nil => simp at hl; omega
            | cons r R3 => exact ⟨r, R3, rfl⟩
          have q2' : wr.cell? ⟨b2, o2, none⟩ = some (.int .i64 r) := q2
          clear q2
          by_cases hle : r ≤ x + y
          · have d1 : decide (r ≤ x + y) = true := by simpa using hle
            have HM := Lib.hid (show Mg.mrg (r :: R3) ((x + y) :: Mg.pairs (Mg.wts A'')) = (r, true) :: Mg.mrg R3 ((x + y) :: Mg.pairs (Mg.wts A'')) by rw [Mg.mrg_cons, if_pos hle])
            have HT := Lib.hid (fun ao hao => HI2.out.tail 1 (by omega) ao hao)
            clear hle
            go_wp2_with (at_builtin; refine wpl_fits tyIt rfl _ _ rfl (own_below HQ.out.own (below_alloc wr _)) (src_item wr r true) rfl rfl (by omega) ?_)
            intro w3 own3 hg3
            have hb3 := HQ.out.below rfl hg3
            have HQ2 := Lib.hid (fun ao hao => HQ.out.sym (w3 := w3) HM.out hb3 own3 ao (HT.out ao hao))
            clear own3 hg3 hb3 HQ HT
            by_cases hcc : c2 = 1
            · obtain rfl : m = 1 := by omega
              subst hcc
              go_wp2
              go_roundg 0
              case rel => exact ⟨0, k2 + 1, R3, _, rfl, by omega, by omega, Lib.hid (HQ2.out _ (fun h => absurd trivial h))⟩
              case measure => omega
            · go_wp2
              go_roundg (m - 1)
              case rel => exact ⟨m - 1, k2 + 1, R3, _, rfl, by omega, by omega, Lib.hid (HQ2.out _ (fun _ => rfl))⟩
              case measure => omega
          · have d1 : decide (r ≤ x + y) = false := by simpa using hle
            have HM := Lib.hid (show Mg.mrg (r :: R3) ((x + y) :: Mg.pairs (Mg.wts A'')) = (x + y, false) :: Mg.mrg (r :: R3) (Mg.pairs (Mg.wts A'')) by rw [Mg.mrg_cons, if_neg hle])
            clear hle
            go_wp2_with (at_builtin; refine wpl_fits tyIt rfl _ _ rfl (own_below HQ.out.own (below_alloc wr _)) (src_item wr (x + y) false) rfl rfl (by omega) ?_)
            intro w3 own3 hg3
            have hb3 := HQ.out.below rfl hg3
            have HQ2 := Lib.hid (fun ao hao => HQ.out.pkg (w3 := w3) (c1 := c1) HM.out hb3 own3 ao (HI1.out.drop 2 hge ao hao))
            clear own3 hg3 hb3 HQ
            by_cases hcc : c1 = 2
            · obtain rfl : n1 = 2 := by omega
              subst hcc
              go_wp2
              go_roundg 0
              case rel => exact ⟨m, 0, k2 + 1, _, A'', _, rfl, hm, by omega, by omega, Lib.hid (HQ2.out _ (fun h => absurd trivial h))⟩
              case measure => omega
            · go_wp2
              go_roundg (n1 - 2)
              case rel => exact ⟨m, n1 - 2, k2 + 1, _, A'', _, rfl, hm, by omega, by omega, Lib.hid (HQ2.out _ (fun _ => rfl))⟩
              case measure => omega
    · have dge : decide (2 ≤ (n1 : Int)) = false := by simp; omega
      have e : Mg.pairs (Mg.wts A') = [] := List.eq_nil_of_length_eq_zero (by rw [Mg.pairs_length, Mg.wts_length, HI1.out.hlen]; omega)
      have HE := Lib.hid (show out ++ R'.map (fun x => (x, true)) = Mg.mrg R (Mg.pairs (Mg.wts A)) by rw [← Mg.mrg_end, ← e]; exact HR.out.eq)
      have HTL : Hid (R.length + A.length / 2 = C) := Lib.hid (by rw [HL.out, HL1.out, hC])
      clear e HL HL1 H H1 HP HN hl hl1 hC HI1
      rename World => w0
      have HO : Hid (Below w.heap.size w w0 ∧ w0.ownsRow w.heap.size 186 2 (.slice (some ⟨g, 0, none⟩) k C) k (itv out)) := Lib.hid ⟨HR.out.bel, HR.out.own⟩
      clear HR
      go_wp2
      go_loopw [5, 56] (fun v5 i wr => ∃ j : Nat, j ≤ n0 ∧ i = .int .i64 j ∧ v5 = .slice (some ⟨g, 0, none⟩) (k + j) C ∧ Hid (Below w.heap.size w wr ∧ wr.ownsRow w.heap.size 186 2 (.slice (some ⟨g, 0, none⟩) (k + j) C) (k + j) (itv (out ++ (R'.map (fun x => (x, true))).take j)))) (fun _ i _ => n0 - (intOf i).toNat)
      case atStart => exact ⟨0, by omega, rfl, rfl, by simpa using HO⟩
      case round =>
        obtain ⟨j, hj, rfl, rfl, HJ⟩ := hrel
        by_cases hlt : j < n0
        · obtain ⟨b2, o2, rfl, _, q2⟩ := (HI0.out.mono HJ.out.1).at' j hlt
          have hjl : j < R'.length := by rw [HI0.out.hlen]; exact hlt
          have HT : Hid (itv (out ++ (R'.map (fun x => (x, true))).take (j + 1)) = itv (out ++ (R'.map (fun x => (x, true))).take j) ++ itv [(R'.getD j 0, true)]) := Lib.hid (by
            rw [← itv_append, List.append_assoc, List.take_succ_eq_append_getElem (by simpa using hjl)]
            simp [List.getD, List.getElem?_eq_getElem hjl])
          clear hjl
          generalize R'.getD j 0 = z at *
          go_wp2_with (at_builtin; refine wpl_fits tyIt rfl _ _ rfl (own_below HJ.out.2 (below_alloc wr _)) (src_item wr z true) rfl rfl (by omega) ?_)
          intro w3 own3 hg3
          have hb3 : Below w.heap.size w w3 := (HJ.out.1.alloc HJ.out.1.size _).grown hg3 (by simp; have := HJ.out.1.size; omega) (fun j hj => by cases hj; exact (HJ.out.2.lt g rfl).1)
          rw [← HT.out] at own3
          have HJ2 := Lib.hid (And.intro hb3 own3)
          clear own3 hg3 hb3 HJ
          go_wp2
          go_roundw
          case rel => exact ⟨j + 1, by omega, by go_num, rfl, HJ2⟩
          case measure => simp [intOf]; omega
        · obtain rfl : n0 = j := by omega
          have hfull : (R'.map (fun x => (x, true))).take n0 = R'.map (fun x => (x, true)) := List.take_of_length_le (by rw [List.length_map, HI0.out.hlen]; exact Nat.le_refl _)
          rw [hfull, HE.out] at HJ
          have hkC : k + n0 = C := by omega
          rw [hkC] at HJ ⊢
          go_wp2
          go_ret
          exact ⟨_, rfl, by rw [HTL.out]; exact HJ.out.2, HJ.out.1⟩
end Go.Proofs.YtpoilaappcjbeaaGreatDoor
end
