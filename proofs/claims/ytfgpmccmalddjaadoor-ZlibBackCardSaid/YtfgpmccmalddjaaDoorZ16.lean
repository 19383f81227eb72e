/- (*Reader).Align: its contract. slices.Repeat of one number, any number of times: its contract. What the reader of inflate asks of its bits beside single numbers: many of them, and the end of a byte. (*reader).stored: its contract. -/
import Derived.Test.YtfgpmccmalddjaaDoorZ15
import Derived.Laws.CopyOwn
import Derived.Deep.QuietTactic
import Derived.Deep.RegionLaw
import Derived.BigQuiet
set_option linter.unusedSimpArgs false
set_option linter.unusedVariables false
section
namespace Go.Proofs.YtfgpmccmalddjaaDoor
open Go.RowKit

def AlignRPost (w : World) (B g : Nat) (h : Bool) (v : Value) (l : List UInt8) (p : Nat) (e : Ending) (w' : World) : Prop :=
  e = .returned (.tuple #[]) ∧ Rd w' B g h v l (p + (8 - p % 8) % 8) ∧ Ch w w' (fun k => k = g)
set_option maxHeartbeats 1000000 in
theorem alignR_any (w : World) (B g : Nat) (h : Bool) (v : Value) (l : List UInt8) (p : Nat) (H : Rd w B g h v l p) (hp : p ≤ 1000000000000) :
    Calls Tryd.prog 90 #[.pointer (some ⟨g, 0, none⟩)] w (AlignRPost w B g h v l p) := by
  have k2 := H.c2
  have f2 := H.fr 2
  have HX := Lib.hid (show AlignRPost w B g h v l p (.returned (.tuple #[])) (w.setCell ⟨g, 2, none⟩ (.int .i64 ((p + (8 - p % 8) % 8 : Nat) : Int))).drew from
    ⟨rfl, (H.setAt _).mono (Below.refl _ _).drew, ((Ch.refl w (fun k => k = g)).set (.inl rfl) _).drew⟩)
  clear H
  have hm8 : (8 - p % 8) % 8 < 8 := by omega
  obtain ⟨m, hm⟩ : ∃ m, (8 - p % 8) % 8 = m := ⟨_, rfl⟩
  rw [hm] at HX hm8
  have HM := Lib.hid hm
  clear hm
  have a1 : IntKind.i64.wrap ((p : Int) + m) = ((p + m : Nat) : Int) := by rw [IntWalk.i64_in _ ⟨by omega, by omega⟩]; omega
  go_enter Tryd.func90, Tryd.ntmps90
  go_wp2
  refine region_J 12 (fun w' => w'.cell? ⟨g, 2, none⟩ = some (.int .i64 (p : Nat))) (by kernel_rfl) ?_
  refine J_take (i := 0) (v := ?_) rfl (by kernel_rfl) (by kernel_rfl) (by kernel_rfl) (by kernel_rfl) (fun _ _ _ h => h) k2 (by rfl) ?_ ?_
  rotate_left
  · (intro w' hw'; obtain c0 := hw'; first | (go_simp; done) | (go_simp; with_reducible rfl))
  try simp only [Act.put, List.setIfInBounds_toArray, List.set_cons_zero, List.set_cons_succ]
  refine J_take (i := 1) (v := ?_) rfl (by kernel_rfl) (by kernel_rfl) (by kernel_rfl) (by kernel_rfl) (fun _ _ _ h => h) k2 (by rfl) ?_ ?_
  rotate_left
  · (intro w' hw'; obtain c0 := hw'; first | (go_simp; done) | (go_simp; with_reducible rfl))
  try simp only [Act.put, List.setIfInBounds_toArray, List.set_cons_zero, List.set_cons_succ]
  refine J_take (i := 2) (v := ?_) rfl (by kernel_rfl) (by kernel_rfl) (by kernel_rfl) (by kernel_rfl) (fun _ _ _ h => h) k2 (by rfl) ?_ ?_
  rotate_left
  · (intro w' hw'; obtain c0 := hw'; first | (go_simp; done) | (go_simp; with_reducible rfl))
  try simp only [Act.put, List.setIfInBounds_toArray, List.set_cons_zero, List.set_cons_succ]
  refine J_take (i := 3) (v := ?_) rfl (by kernel_rfl) (by kernel_rfl) (by kernel_rfl) (by kernel_rfl) (fun _ _ _ h => h) k2 (by rfl) ?_ ?_
  rotate_left
  · (intro w' hw'; obtain c0 := hw'; first | (go_simp; done) | (go_simp; with_reducible rfl))
  try simp only [Act.put, List.setIfInBounds_toArray, List.set_cons_zero, List.set_cons_succ]
  refine J_take (i := 4) (v := ?_) rfl (by kernel_rfl) (by kernel_rfl) (by kernel_rfl) (by kernel_rfl) (fun _ _ _ h => h) k2 (by rfl) ?_ ?_
  rotate_left
  · (intro w' hw'; obtain c0 := hw'; first | (go_simp; done) | (go_simp; with_reducible rfl))
  try simp only [Act.put, List.setIfInBounds_toArray, List.set_cons_zero, List.set_cons_succ]
  refine J_take (i := 5) (v := ?_) rfl (by kernel_rfl) (by kernel_rfl) (by kernel_rfl) (by kernel_rfl) (fun _ _ _ h => h) k2 (by rfl) ?_ ?_
  rotate_left
  · (intro w' hw'; obtain c0 := hw'; first | (go_simp; done) | (go_simp; with_reducible rfl))
  try simp only [Act.put, List.setIfInBounds_toArray, List.set_cons_zero, List.set_cons_succ]
  refine J_take (i := 6) (v := ?_) rfl (by kernel_rfl) (by kernel_rfl) (by kernel_rfl) (by kernel_rfl) (fun _ _ _ h => h) k2 (by rfl) ?_ ?_
  rotate_left
  · (intro w' hw'; obtain c0 := hw'; first | (go_simp; done) | (go_simp; with_reducible rfl))
  try simp only [Act.put, List.setIfInBounds_toArray, List.set_cons_zero, List.set_cons_succ]
  refine J_take (i := 7) (v := ?_) rfl (by kernel_rfl) (by kernel_rfl) (by kernel_rfl) (by kernel_rfl) (fun _ _ _ h => h) k2 (by rfl) ?_ ?_
  rotate_left
  · (intro w' hw'; obtain c0 := hw'; first | (go_simp; done) | (go_simp; with_reducible rfl))
  try simp only [Act.put, List.setIfInBounds_toArray, List.set_cons_zero, List.set_cons_succ]
  refine J_step (i := 8) (by kernel_rfl) rfl (fun K hK => ?_)
  go_simp
  go_at_call 102
  refine (missing_any p _ hp).mono ?_
  rintro e w' ⟨rfl, rfl⟩
  rw [HM.out]
  go_simp
  refine hK.out _ _ (fun _ => k2) (fun _ => ?_)
  clear hK K
  try simp only [Act.put, List.setIfInBounds_toArray, List.set_cons_zero, List.set_cons_succ]
  refine J_take (i := 9) (v := ?_) rfl (by kernel_rfl) (by kernel_rfl) (by kernel_rfl) (by kernel_rfl) (fun _ _ _ h => h) k2 (by rfl) ?_ ?_
  rotate_left
  · (intro w' hw'; obtain c0 := hw'; first | (go_simp; done) | (go_simp; with_reducible rfl))
  try simp only [Act.put, List.setIfInBounds_toArray, List.set_cons_zero, List.set_cons_succ]
  refine J_step (i := 10) (by kernel_rfl) rfl (fun K hK => ?_)
  go_simp
  refine hK.out _ _ (fun _ => k2) (fun _ => ?_)
  clear hK K
  try simp only [Act.put, List.setIfInBounds_toArray, List.set_cons_zero, List.set_cons_succ]
  refine J_take (i := 11) (v := ?_) rfl (by kernel_rfl) (by kernel_rfl) (by kernel_rfl) (by kernel_rfl) (fun _ _ _ h => h) k2 (by rfl) ?_ ?_
  rotate_left
  · (intro w' hw'; obtain c0 := hw'; first | (go_simp; done) | (go_simp; with_reducible rfl))
  try simp only [Act.put, List.setIfInBounds_toArray, List.set_cons_zero, List.set_cons_succ]
  refine J_step (i := 12) (by kernel_rfl) rfl (fun K hK => ?_)
  go_simp
  refine hK.out _ _ (fun h => absurd rfl h) (fun _ => ?_)
  clear hK K
  try simp only [Act.put, List.setIfInBounds_toArray, List.set_cons_zero, List.set_cons_succ]
  refine J_done (by kernel_rfl) ?_ _
  go_wp2
  go_end0
  have := HX.out
  first | exact this | (simpa using this)
end Go.Proofs.YtfgpmccmalddjaaDoor
end

section
namespace Go.Proofs.YtfgpmccmalddjaaDoor
open Go.RowKit
set_option linter.unusedSimpArgs false

theorem u64_and32 (c : Nat) (h : c < 4294967296) : bits .and .u64 (c : Int) 4294967295 = (c : Int) := by
  have h2 := bits_mask .u64 64 (by decide) (fun n h0 h1 => by simp only [IntKind.wrap, IntKind.signed, IntKind.bits]; first | omega | (simp; omega)) 32 (by decide) (c : Int) (by omega) (by omega)
  simp only [Int.reducePow, Int.reduceSub] at h2
  rw [h2]; omega
theorem mul64_one (c : Nat) (hc : c < 4294967296) (w : World) : Calls Tryd.prog 103 #[.int .u64 1, .int .u64 (c : Nat)] w fun e w' => e = .returned (.tuple #[.int .u64 0, .int .u64 (c : Nat)]) ∧ w = w' := by
  have ha := u64_and32 c hc
  have h1 : bits .and .u64 1 4294967295 = 1 := by decide +kernel
  have h0 : bits .and .u64 0 4294967295 = 0 := by decide +kernel
  have hd : (c : Int) / 4294967296 = 0 := by omega
  have hw : IntKind.u64.wrap (c : Int) = (c : Int) := by simp only [IntKind.wrap, IntKind.signed, IntKind.bits]; first | omega | (simp; omega)
  have hw0 : IntKind.u64.wrap 0 = 0 := by decide +kernel
  have h64 : Calls Tryd.prog 113 #[.int .u64 1, .int .u64 (c : Nat)] w fun e w' => e = .returned (.tuple #[.int .u64 0, .int .u64 (c : Nat)]) ∧ w = w' := by
    go_enter Tryd.func113, Tryd.ntmps113
    go_wp2
    go_ret2
    exact ⟨rfl, rfl⟩
  go_enter Tryd.func103, Tryd.ntmps103
  go_wp2_with fail
  refine h64.mono ?_
  rintro e w' ⟨rfl, rfl⟩
  go_wp2
  go_ret2
  exact ⟨rfl, rfl⟩
section
variable {P : Program} {w : World} {ops : Array Oper} {o : Oper} {a : Act} {Q : Exit → Act → World → Prop} {K : Act → World → Prop} {E : Prop}
/-- copy, as one step of a region that draws. -/
theorem step_copy (hg : o.guard = none) (d s : Operand) (dT sT : TypeId) (ho : o.op = .call { callee := .builtin .copy, args := #[d, s], argTypes := #[dT, sT] }) (elem : TypeId) (hu : P.underlying dT = some (.slice elem)) (hsz : (P.info? elem).map (·.size) = some 1)
    (g off dLen dCap : Nat) (ad : Addr) (sLen sCap : Nat) (hd : a.eval d = .slice (some ⟨g, off, none⟩) dLen dCap) (hs : a.eval s = .slice (some ad) sLen sCap)
    (cur : Array Value) (t : TypeId) (hrow : w.heap[g]? = some (.cells cur t (0, 0))) (cs : List Value) (hn : cs.length = Nat.min sLen dLen)
    (hsrc : ∀ j v, cs[j]? = some v → w.cell? (ad.add j) = some v) (hfit : off + cs.length ≤ cur.size) (h1 : ∀ v ∈ cs, v.oneCell' = true)
    (hK : K (a.put o.dst (goInt cs.length)) (w.setRow g (cur.toList.take off ++ cs ++ cur.toList.drop (off + cs.length)).toArray)) :
    if Region.wanted o (yielded ops a.tmps) = true then Oper.wp P o a w K Q else E := by
  have hw : Region.wanted o (yielded ops a.tmps) = true := by simp [Region.wanted, hg]
  rw [if_pos hw]
  have hrun := run_copy_row (P := P) w dT sT o.type elem g off dLen dCap ad sLen sCap cur t cs hu hsz hrow hn hsrc hfit h1
  unfold Oper.wp
  simp [execOp, ho, resolve, invoke, builtin, hd, hs, hrun, Result.andThen]
  rw [List.append_assoc] at hK
  have hU : ∀ r : Result Next, r = Result.ok (Next.value (goInt cs.length)) (w.setRow g (cur.toList.take off ++ (cs ++ cur.toList.drop (off + cs.length))).toArray) → Oper.upon P o a K Q r := fun r hr => by
    subst hr
    simp only [Oper.upon]
    exact hK
  first | exact hK | (refine hU _ ?_; simp) | simpa using hU _ rfl
end
def RpPost (w : World) (c : Int) (n : Nat) (e : Ending) (w' : World) : Prop := ∃ v, e = .returned v ∧ w'.ownsRow w.heap.size 3 1 v n (ivs (List.replicate n c)) ∧ Below w.heap.size w w'
/-- What has been filled of a new row. -/
structure RpX (w wr : World) (c : Int) (n k : Nat) : Prop where
  row : wr.heap[w.heap.size]? = some (.cells (ivs (List.replicate k c ++ List.replicate (n - k) 0)).toArray 3 (0, 0))
  bel : Below w.heap.size w wr
theorem fill_splice (c : Int) (n k m : Nat) (hm : k + m ≤ n) : (List.replicate k c ++ List.replicate (n - k) 0).take k ++ (List.replicate m c ++ (List.replicate k c ++ List.replicate (n - k) 0).drop (k + m)) = List.replicate (k + m) c ++ List.replicate (n - (k + m)) 0 := by
  rw [List.take_append_of_le_length (by simp), List.take_of_length_le (by simp), List.drop_append, List.drop_of_length_le (by simp)]
  simp only [List.nil_append, List.length_replicate, List.drop_replicate]
  rw [← List.append_assoc, List.replicate_append_replicate]
  congr 2; omega
theorem rep_src {w wr : World} {c : Int} {n k m : Nat} (h : RpX w wr c n k) (hm2 : k + m ≤ n) (hm : m = min k (n - k)) {j : Nat} {v : Value} (hj : (List.replicate m (Value.int .i64 c))[j]? = some v) : wr.drew.cell? ((⟨w.heap.size, 0, none⟩ : Addr).add j) = some v := by
  obtain ⟨hj1, hj2⟩ := List.getElem?_eq_some_iff.1 hj
  simp only [List.length_replicate] at hj1
  simp only [List.getElem_replicate] at hj2
  subst hj2
  have h1 := cell_of_row wr w.heap.size j _ _ _ h.row
  have e : ((⟨w.heap.size, 0, none⟩ : Addr).add j) = ⟨w.heap.size, j, none⟩ := by
    simp [Addr.add]; omega
  have h2 : wr.drew.cell? ⟨w.heap.size, j, none⟩ = wr.cell? ⟨w.heap.size, j, none⟩ := rfl
  rw [e, h2, h1]
  have h3 : (ivs (List.replicate k c ++ List.replicate (n - k) 0))[j]? = some (.int .i64 c) := by
    unfold ivs
    rw [List.getElem?_map, List.getElem?_append_left (by rw [List.length_replicate]; omega), List.getElem?_replicate, if_pos (by omega)]
    rfl
  simpa using h3
set_option maxRecDepth 100000 in
set_option maxHeartbeats 2000000 in
theorem repeat_any (g : Nat) (c : Int) (n : Nat) (w : World) (h : w.cell? ⟨g, 0, none⟩ = some (.int .i64 c)) (hgl : g < w.heap.size) (hn : n ≤ 1000000) :
    Calls Tryd.prog 91 #[.slice (some ⟨g, 0, none⟩) 1 1, .int .i64 (n : Nat)] w (RpPost w c n) := by
  have hwn : IntKind.u64.wrap (n : Int) = (n : Int) := by simp only [IntKind.wrap, IntKind.signed, IntKind.bits]; first | omega | (simp; omega)
  have d0 : decide ((n : Int) < 0) = false := by simp
  have d1 : decide ((9223372036854775807 : Int) < (n : Int)) = false := by simp; omega
  have hH := Lib.hid h
  clear h
  go_enter Tryd.func91, Tryd.ntmps91
  go_wp2_with fail
  refine (mul64_one n (by omega) w).mono ?_
  rintro e w' ⟨rfl, rfl⟩
  go_wp2_with (at_make; refine wpl_make_full tyI rfl _ _ rfl w.heap.size .i64 .i64 _ _ n rfl rfl rfl rfl (by omega) (by omega) (Nat.le_refl _) ?_)
  intro w1 own1 hg1
  have hb1 : Below w.heap.size w w1 := (Below.refl _ _).grown hg1 (Nat.le_refl _) (by simp)
  by_cases hn0 : n = 0
  · subst hn0
    have hO := Lib.hid (And.intro own1 hb1)
    clear own1 hg1 hb1
    go_wp2_with (with_reducible refine wpList_copy_nothing rfl _ _ _ _ rfl 3 Tryd.underlying50 (by kernel_rfl) _ _ _ _ _ _ rfl rfl rfl ?_)
    go_wp2
    go_loop [8] (fun i => i = .int .i64 0) (fun _ => 0)
    case atStart => rfl
    case round =>
      obtain rfl := hrel
      go_wp2
      go_ret
      exact ⟨_, rfl, by have := hO.out.1; simpa [madeCells, ivs] using this, hO.out.2⟩
  have hrow1 : w1.heap[w.heap.size]? = some (.cells (ivs (List.replicate n 0)).toArray 3 (0, 0)) := by
    have e2 := made_ints1 n
    rw [Nat.mul_one] at e2
    rcases own1.2 with ⟨h1, _⟩ | ⟨g2, cap2, cur, h1, _, hg, _, _, hsz, hcur⟩
    · simp at h1
    · simp only [Value.slice.injEq, Option.some.injEq, Addr.mk.injEq, and_true, true_and] at h1
      obtain ⟨rfl, rfl⟩ := h1
      have e3 : cur = (ivs (List.replicate n 0)).toArray := by
        apply Array.ext'
        rw [Nat.mul_one] at hsz
        have := own1.1
        simp only [Nat.mul_one] at hcur
        rw [List.take_of_length_le (by rw [Array.length_toList, hsz]; exact Nat.le_refl _)] at hcur
        rw [hcur]
        first | exact e2 | (simpa using e2)
      rw [← e3]; exact hg
  have hc1 : w1.cell? ⟨g, 0, none⟩ = some (.int .i64 c) := (hb1.cell (p := ⟨g, 0, none⟩) hgl).trans hH.out
  have HX : Hid (∀ xs, w1.setRow w.heap.size xs = w1.setRow w.heap.size xs) := Lib.hid (fun _ => rfl)
  have hbl := Lib.hid hb1
  have HR1 := Lib.hid hrow1
  have HC1 := Lib.hid hc1
  clear own1 hg1 hb1 hrow1 hc1 hH HX
  obtain ⟨w2, hrun, HR⟩ : ∃ w2, (Builtin.copy_ #[50, 50] 3 #[.slice (some ⟨w.heap.size, 0, none⟩) n n, .slice (some ⟨g, 0, none⟩) 1 1]).run Tryd.prog w1 = .ok (.int .i64 1) w2 ∧ Hid (RpX w w2 c n 1) := by
    have h1 := run_copy_row (P := Tryd.prog) w1 50 50 3 3 w.heap.size 0 n n ⟨g, 0, none⟩ 1 1 (ivs (List.replicate n 0)).toArray 3 [.int .i64 c] Tryd.underlying50 (by kernel_rfl) HR1.out (by show 1 = min 1 n; omega) (fun j v hj => by
      match j, hj with
      | 0, hj => cases hj; exact HC1.out) (by simp [ivs_length]; omega) (by intro v hv; simp at hv; subst hv; rfl)
    refine ⟨_, h1, Lib.hid ⟨?_, below_setRow (B := w.heap.size) (w0 := w) (g := w.heap.size) hbl.out (Nat.le_refl _) _⟩⟩
    have e : (((ivs (List.replicate n 0)).toArray).toList.take 0 ++ [Value.int .i64 c] ++ ((ivs (List.replicate n 0)).toArray).toList.drop (0 + [Value.int .i64 c].length)) = ivs (List.replicate 1 c ++ List.replicate (n - 1) 0) := by
      obtain ⟨m, rfl⟩ : ∃ m, n = m + 1 := ⟨n - 1, by omega⟩
      simp [ivs, List.replicate_succ]
    rw [← e]
    exact setRow_heap _ _ _ _ _ _ HR1.out
  go_wp2
  go_loopw [8] (fun i wr => ∃ k : Nat, 1 ≤ k ∧ k ≤ n ∧ i = .int .i64 k ∧ Hid (RpX w wr c n k)) (fun i _ => n - (intOf i).toNat)
  case atStart => exact ⟨1, by omega, by omega, rfl, HR⟩
  case round =>
    obtain ⟨k, hk1, hk, rfl, HK⟩ := hrel
    by_cases hlt : k < n
    · have hnk : (n = k) = False := by simp; omega
      obtain ⟨m, hmE, hm1, hm2⟩ : ∃ m, m = min k (n - k) ∧ 0 < m ∧ k + m ≤ n := ⟨min k (n - k), rfl, by omega, by omega⟩
      have hmH := Lib.hid hmE
      clear hmE
      have hwr : IntKind.i64.wrap ((k : Int) + (m : Int)) = ((k + m : Nat) : Int) := by simp only [IntKind.wrap, IntKind.signed, IntKind.bits]; first | omega | (simp; omega)
      have hHX : RpX w (wr.drew.setRow w.heap.size (List.take k (ivs (List.replicate k c ++ List.replicate (n - k) 0)) ++ (List.replicate m (Value.int .i64 c) ++ List.drop (k + m) (ivs (List.replicate k c ++ List.replicate (n - k) 0)))).toArray) c n (k + m) := by
        refine ⟨?_, below_setRow (B := w.heap.size) (w0 := w) (g := w.heap.size) HK.out.bel.drew (Nat.le_refl _) _⟩
        have e : List.take k (ivs (List.replicate k c ++ List.replicate (n - k) 0)) ++ (List.replicate m (Value.int .i64 c) ++ List.drop (k + m) (ivs (List.replicate k c ++ List.replicate (n - k) 0))) = ivs (List.replicate (k + m) c ++ List.replicate (n - (k + m)) 0) := by
          have := congrArg ivs (fill_splice c n k m hm2)
          simpa [ivs, List.map_take, List.map_drop] using this
        rw [e]
        exact setRow_heap wr.drew _ _ _ _ _ HK.out.row
      have hH2 := Lib.hid hHX
      clear hHX
      go_wp2_with fail
      go_region_law (refine step_copy rfl (.tmp 41) (.tmp 44) 50 50 rfl 3 Tryd.underlying50 (by kernel_rfl) w.heap.size k (n - k) (n - k) ⟨w.heap.size, 0, none⟩ k n (by simp [Act.eval, Act.put, hnk]) (by simp [Act.eval, Act.put]) _ 3 HK.out.row (List.replicate m (Value.int .i64 c)) (by simpa using hmH.out) (fun j v hj => rep_src HK.out hm2 hmH.out hj) (by simp [ivs]; omega) (by intro v hv; simp at hv; rw [hv.2]; rfl) ?_)
      simp only [List.getElem_toArray, List.getElem_cons_zero, List.getElem_cons_succ, Act.put, List.setIfInBounds_toArray, List.set_cons_zero, List.set_cons_succ]
      go_roundw
      case rel => exact ⟨_, _, _, _, _, _, _, _, _, _, _, _, _, _, ⟨k + m, by omega, hm2, by go_num, hH2⟩, rfl⟩
      case measure => simp [intOf]; omega
    · obtain rfl : k = n := by omega
      go_wp2
      go_ret
      refine ⟨_, rfl, ⟨by simp [ivs], .inr ⟨w.heap.size, k, _, rfl, Nat.le_refl _, HK.out.row, by omega, by unfold maxLen; omega, ?_, ?_⟩⟩, HK.out.bel⟩
      · simp [ivs]
      · simp [ivs]
end Go.Proofs.YtfgpmccmalddjaaDoor
end

section
namespace Go.Proofs.YtfgpmccmalddjaaDoor
open Go.RowKit

/-- What numbers answers, told of the whole reader. -/
def NPost (w : World) (D : Nat → Prop) (B gr gb : Nat) (p5 p6 : Value) (bs : List UInt8) (most : Nat) (ls : Bool) (s : Unp) (r : Ip.Rs (List Nat)) (e : Ending) (w' : World) : Prop :=
  match r with
  | .ok ns q => ∃ v, e = .returned (.tuple #[v, .nilIface]) ∧ w'.ownsRow w.heap.size 3 1 v ns.length (ivs (nis ns)) ∧ Ir w' (fun k => D k ∨ v.ownBlock = some k) B gr gb p5 p6 bs q most ls s ∧ Ch w w' (fun k => ¬ D k)
  | .err n => (n == 0) = false ∧ e = .returned (.tuple #[.slice none 0 0, .iface 39 (.int .i64 n)]) ∧ Ch w w' (fun k => ¬ D k)
namespace Ip
theorem numbers_place : ∀ cs u p ns q, numbers cs u p = .ok ns q → p ≤ u.length → p ≤ q ∧ q ≤ u.length
  | [], u, p, ns, q, h, hp => by cases h; exact ⟨Nat.le_refl _, hp⟩
  | c :: cs, u, p, ns, q, h, hp => by
    change bind (take c) (fun n => bind (numbers cs) fun ns => pure (n :: ns)) u p = .ok ns q at h
    unfold bind take at h
    by_cases hc : p + c ≤ u.length
    · rw [if_pos hc] at h
      dsimp only at h
      cases hx : numbers cs u (p + c) with
      | err n => rw [hx] at h; cases h
      | ok ms r =>
        rw [hx] at h
        have := numbers_place cs u _ _ _ hx hc
        cases h
        omega
    · rw [if_neg hc] at h; cases h
theorem numbers_lt (b : Nat) : ∀ cs u p ns q, (∀ c ∈ cs, c ≤ b) → numbers cs u p = .ok ns q → ∀ n ∈ ns, n < 2 ^ b
  | [], u, p, ns, q, hb, h => by cases h; intro n hn; cases hn
  | c :: cs, u, p, ns, q, hb, h => by
    change bind (take c) (fun n => bind (numbers cs) fun ns => pure (n :: ns)) u p = .ok ns q at h
    unfold bind at h
    cases hy : take c u p with
    | err n => rw [hy] at h; cases h
    | ok m r =>
      rw [hy] at h
      dsimp only at h
      cases hx : numbers cs u r with
      | err n => rw [hx] at h; cases h
      | ok ms t =>
        rw [hx] at h
        have ih := numbers_lt b cs u _ _ _ (fun c hc => hb c (List.mem_cons_of_mem _ hc)) hx
        have h1 := take_lt hy
        have h2 : 2 ^ c ≤ 2 ^ b := Nat.pow_le_pow_right (by omega) (hb c List.mem_cons_self)
        cases h
        intro n hn
        rcases List.mem_cons.1 hn with rfl | hn
        · omega
        · exact ih n hn
end Ip
section
variable {w : World} {D : Nat → Prop} {B gr gb p most : Nat} {p5 p6 : Value} {bs : List UInt8} {ls : Bool} {s : Unp}
theorem irNums (h : Ir w D B gr gb p5 p6 bs p most ls s) {a : Option Addr} {len cap : Nat} {cnts : List Nat} (hI : Is .i64 w a len cap (nis cnts)) (hag : ∀ ad, a = some ad → ad.block ≠ gb) (hl : len ≤ 1000000) (hc : ∀ c ∈ cnts, c ≤ 32) :
    Calls Tryd.prog 76 #[.pointer (some ⟨gr, 0, none⟩), .slice a len cap] w (NPost w D B gr gb p5 p6 bs most ls s (Ip.numbers cnts (lob bs) p)) := by
  obtain ⟨vb, cs, v, vl, h⟩ := h
  have hbl := h.hbl
  refine (numbers_any h.ou.row h.c0 h.gg h.rd h.hB h.hp (by omega) hI hag hl hc).mono ?_
  intro e w' hp
  unfold NumsPost at hp
  unfold NPost
  cases hx : Ip.numbers cnts (lob bs) p with
  | err n =>
    rw [hx] at hp
    obtain ⟨h1, h2, h3⟩ := hp
    exact ⟨by simpa using h1, h2, h3.wide (fun j hj => .inl (fun hd => (h.nd j hd).2.2.1 hj))⟩
  | ok ns q =>
    rw [hx] at hp
    obtain ⟨v2, h1, h2, h3, h4⟩ := hp
    have hq := (Ip.numbers_place _ _ _ _ _ hx (by rw [lob_length]; exact h.hp)).2
    rw [lob_length] at hq
    obtain ⟨k1, k2⟩ := h.bits h3 hq h4
    refine ⟨v2, h1, h2, ⟨vb, cs, v, vl, ⟨k1.ou, k1.c0, k1.rd, k1.hp, k1.hm, k1.hl, k1.ht, k1.hbl, k1.hB, k1.gg, k1.vb1, k1.gb1, k1.k5, k1.k6, fun j hj => ?_⟩⟩, k2⟩
    rcases hj with hj | hj
    · exact k1.nd j hj
    · obtain ⟨j1, j2⟩ := h2.lt j hj
      exact ⟨j2, fun e => by have := h.ou.lt; omega, fun e => by have := h.rd.lt; omega, fun e => by have := (h.ou.own.lt j e).2; omega, fun e => by have := (h.ou.ol.lt j e).2; omega, fun e => by have := (h.rd.own.lt j e).2; omega⟩
theorem irAlign (h : Ir w D B gr gb p5 p6 bs p most ls s) :
    Calls Tryd.prog 90 #[.pointer (some ⟨gb, 0, none⟩)] w (fun e w' => e = .returned (.tuple #[]) ∧ Ir w' D B gr gb p5 p6 bs ((p + 7) / 8 * 8) most ls s ∧ Ch w w' (fun k => ¬ D k)) := by
  obtain ⟨vb, cs, v, vl, h⟩ := h
  have hbl := h.hbl
  have hp := h.hp
  refine (alignR_any w B gb false vb bs p h.rd (by omega)).mono ?_
  rintro e w' ⟨rfl, hrd, hch⟩
  have e2 : p + (8 - p % 8) % 8 = (p + 7) / 8 * 8 := by omega
  rw [e2] at hrd
  obtain ⟨k1, k2⟩ := h.bits hrd (by omega) hch
  exact ⟨rfl, ⟨vb, cs, v, vl, k1⟩, k2⟩
end
end Go.Proofs.YtfgpmccmalddjaaDoor
end

section
namespace Go.Proofs.YtfgpmccmalddjaaDoor
open Go.RowKit
attribute [local go_sem] Oper.semAt_some

namespace Ip
def addsP (most : Nat) : List Nat → Unp → Pr Unp
  | [], s => pure s
  | x :: xs, s => bind (addP most (0, ((x : Nat) : Int)) s) (addsP most xs)
def storedK (most : Nat) (s : Unp) (a b : Nat) : Pr Unp :=
  if bits .xor .i64 ((a : Nat) : Int) ((b : Nat) : Int) = 65535 then (if a ≤ most - s.1.length then bind (numbers (List.replicate a 8)) (fun xs => addsP most xs s) else fail 4) else fail 2
def storedP (most : Nat) (s : Unp) : Pr Unp := bind align fun _ => bind (numbers [16, 16]) fun ns => storedK most s (ns.getD 0 0) (ns.getD 1 0)
end Ip
theorem is_alloc (w : World) (l : List Int) (hw : Wf l) (h0 : l ≠ []) : Is .i64 (w.alloc (.cells (ivs l).toArray 3)) (some ⟨w.heap.size, 0, none⟩) l.length l.length l := by
  refine ⟨rfl, Nat.le_refl _, fun h => by simp at h, fun i hi => ⟨w.heap.size, 0, rfl, by simp, ?_⟩, hw⟩
  rw [cell_of_row _ _ _ _ _ (0, 0) (heap_alloc_last w _), Nat.zero_add, List.getElem?_toArray]
  exact ivs_get l i hi
section
variable {w : World} {D : Nat → Prop} {B gr gb p most : Nat} {p5 p6 : Value} {bs : List UInt8} {ls : Bool} {s : Unp}
set_option maxRecDepth 100000 in
set_option maxHeartbeats 4000000 in
theorem stored_any (h : Ir w D B gr gb p5 p6 bs p most ls s) :
    Calls Tryd.prog 83 #[.pointer (some ⟨gr, 0, none⟩)] w (IrPost w D B gr gb p5 p6 bs most ls (Ip.storedP most s (lob bs) p)) := by
  have g0 := h.cell
  have HA := Lib.hid (irAlign h)
  have HSP : Hid (Ip.storedP most s (lob bs) p = Ip.bind (Ip.numbers [16, 16]) (fun ns => Ip.storedK most s (ns.getD 0 0) (ns.getD 1 0)) (lob bs) ((p + 7) / 8 * 8)) := Lib.hid rfl
  clear h
  go_enter Tryd.func83, Tryd.ntmps83
  go_wp2_with fail
  refine HA.out.mono ?_
  rintro e w1 ⟨rfl, hir1, hch1⟩
  have hb1 := below_alloc w1 (.cells #[.int .i64 16, .int .i64 16] 3)
  have hm1 := hir1.mono hb1
  have HC1 : Hid (Ch w (w1.alloc (.cells #[.int .i64 16, .int .i64 16] 3)) (fun k => ¬ D k)) := Lib.hid (hch1.trans (Ch.of_below (T := fun _ => False) hb1) (fun n hn => hn.elim))
  have HN := Lib.hid (irNums hm1 (a := some ⟨w1.heap.size, 0, none⟩) (len := 2) (cap := 2) (cnts := [16, 16]) (is_alloc w1 [16, 16] (by intro n hn; simp at hn; subst hn; decide +kernel) (by simp)) (by
    intro ad e; cases e
    obtain ⟨vb, cs, v, vl, k⟩ := hir1
    have := k.rd.lt
    intro hh; simp only at hh; omega) (by omega) (by intro c hc; simp at hc; omega))
  clear HA g0 hir1 hch1 hb1 hm1
  go_wp2_with fail
  revert HC1 HN
  generalize World.alloc _ _ = w2
  intro HC1 HN
  refine HN.out.mono ?_
  cases h1 : Ip.numbers [16, 16] (lob bs) ((p + 7) / 8 * 8) with
  | err n =>
    rintro e w3 ⟨hn, rfl, hch3⟩
    have HP : Hid (IrPost w D B gr gb p5 p6 bs most ls (Ip.storedP most s (lob bs) p) (.returned (.iface 39 (.int .i64 n))) w3) := Lib.hid (by
      rw [HSP.out, Ip.bind_err h1]; exact ⟨hn, rfl, HC1.out.trans hch3 (fun n hn => .inl hn)⟩)
    clear hch3 h1 hn
    go_wp2
    go_ret
    exact HP.out
  | ok ns q =>
    rintro e w3 ⟨v, rfl, hown, hir3, hch3⟩
    have hl2 := Ip.numbers_length _ _ _ _ _ h1
    have hlt := Ip.numbers_lt 16 _ _ _ _ _ (by intro c hc; simp at hc; omega) h1
    obtain ⟨a, b, rfl⟩ : ∃ a b, ns = [a, b] := by
      match ns, hl2 with
      | [a, b], _ => exact ⟨a, b, rfl⟩
    have ha := hlt a (by simp)
    have hb := hlt b (by simp)
    have HS2 : Hid (Ip.storedP most s (lob bs) p = Ip.storedK most s a b (lob bs) q) := Lib.hid (by rw [HSP.out, Ip.bind_ok h1]; rfl)
    have HC3 : Hid (Ch w w3 (fun k => ¬ D k)) := Lib.hid (HC1.out.trans hch3 (fun n hn => .inl hn))
    obtain ⟨gn, cn, hv⟩ : ∃ gn cn, v = .slice (some ⟨gn, 0, none⟩) 2 cn := by
      rcases own_nil_or hown with ⟨_, h0⟩ | ⟨g, cap, h0, _⟩
      · simp at h0
      · exact ⟨g, cap, h0⟩
    subst hv
    have n0 : w3.cell? ⟨gn, 0, none⟩ = some (.int .i64 ((a : Nat) : Int)) := hown.cellAt 0 (by simp)
    have n1 : w3.cell? ⟨gn, 1, none⟩ = some (.int .i64 ((b : Nat) : Int)) := hown.cellAt 1 (by simp)
    have HI3 := Lib.hid (hir3.less (D' := D) (fun k hk => .inl hk))
    have hgn := (hown.lt gn rfl).2
    have HBN : Hid (∀ m, Below w3.heap.size w3 (w3.drewN m)) := Lib.hid (fun m => dn_is w3 m)
    clear hown hir3 hch3 HN HC1 HSP h1 hlt hl2
    cases hd : (bits .xor .i64 ((a : Nat) : Int) ((b : Nat) : Int) != 65535)
    · have HS3 : Hid (Ip.storedP most s (lob bs) p = if a ≤ most - s.1.length then Ip.bind (Ip.numbers (List.replicate a 8)) (fun xs => Ip.addsP most xs s) (lob bs) q else .err 4) := Lib.hid (by
        have hx : bits .xor .i64 ((a : Nat) : Int) ((b : Nat) : Int) = 65535 := by simpa using hd
        rw [HS2.out]; unfold Ip.storedK; rw [if_pos hx]
        split <;> rfl)
      clear HS2
      go_wp2_with fail
      go_quiet (fail)
      rename_i nq
      have HI4 := Lib.hid (HI3.out.mono (HBN.out nq))
      have HC4 : Hid (Ch w (w3.drewN nq) (fun k => ¬ D k)) := Lib.hid (HC3.out.trans (Ch.of_below (T := fun _ => False) (HBN.out nq)) (fun n hn => hn.elim))
      have m0 : (w3.drewN nq).cell? ⟨gn, 0, none⟩ = some (.int .i64 ((a : Nat) : Int)) := ((HBN.out nq).cell (p := ⟨gn, 0, none⟩) hgn).trans n0
      have hgn4 : gn < (w3.drewN nq).heap.size := Nat.lt_of_lt_of_le hgn (HBN.out nq).size
      clear n0 n1 HI3 HC3 HBN hgn hd hb
      revert HI4 HC4 m0 hgn4
      generalize w3.drewN nq = w4
      intro HI4 HC4 m0 hgn4
      obtain ⟨at4, ac4, ht1, ht2, ht3⟩ : ∃ a4 c4, w4.cell? ⟨gr, 1, none⟩ = some (.slice a4 s.1.length c4) ∧ w4.cell? ⟨gr, 2, none⟩ = some (.int .i64 (most : Nat)) ∧ s.1.length ≤ most ∧ most ≤ 4194304 := by
        obtain ⟨vb, cs, v, vl, k⟩ := HI4.out
        obtain ⟨k1, k2, _, _⟩ := k.ou.cells
        obtain ⟨a4, c4, hv, _⟩ := own_bs k.ou.own (by have := k.hl; have := k.hm; omega)
        exact ⟨a4, c4, by rw [k1, hv], k2, k.hl, k.hm⟩
      have g0 := HI4.out.cell
      by_cases hfit : a ≤ most - s.1.length
      · rw [if_pos hfit] at HS3
        have hd2 : decide (((most : Nat) : Int) - ((s.1.length : Nat) : Int) < ((a : Nat) : Int)) = false := by simp; omega
        go_wp2_with fail
        go_quiet (fail)
        rename_i nq
        have HI5 := Lib.hid (HI4.out.mono (dn_is w4 nq))
        have HC5 : Hid (Ch w (w4.drewN nq) (fun k => ¬ D k)) := Lib.hid (HC4.out.trans (Ch.of_below (T := fun _ => False) (dn_is w4 nq)) (fun n hn => hn.elim))
        have m5 : (w4.drewN nq).cell? ⟨gn, 0, none⟩ = some (.int .i64 ((a : Nat) : Int)) := ((dn_is w4 nq).cell (p := ⟨gn, 0, none⟩) hgn4).trans m0
        have hgn5 : gn < (w4.drewN nq).heap.size := Nat.lt_of_lt_of_le hgn4 (dn_is w4 nq).size
        clear m0 g0 ht1 ht2 HI4 HC4 hgn4 hd2
        revert HI5 HC5 m5 hgn5
        generalize w4.drewN nq = w5
        intro HI5 HC5 m5 hgn5
        have hb5 := below_alloc w5 (.cells #[.int .i64 8] 3)
        have c8 : (w5.alloc (.cells #[.int .i64 8] 3)).cell? ⟨w5.heap.size, 0, none⟩ = some (.int .i64 8) := by
          rw [cell_of_row _ _ _ _ _ (0, 0) (heap_alloc_last w5 _)]; rfl
        have m6 : (w5.alloc (.cells #[.int .i64 8] 3)).cell? ⟨gn, 0, none⟩ = some (.int .i64 ((a : Nat) : Int)) := (hb5.cell (p := ⟨gn, 0, none⟩) hgn5).trans m5
        have HRP := Lib.hid (repeat_any w5.heap.size 8 a _ c8 (by simp) (by omega))
        have HI6 := Lib.hid (HI5.out.mono hb5)
        have HC6 : Hid (Ch w (w5.alloc (.cells #[.int .i64 8] 3)) (fun k => ¬ D k)) := Lib.hid (HC5.out.trans (Ch.of_below (T := fun _ => False) hb5) (fun n hn => hn.elim))
        clear hb5 c8 m5 HI5 HC5 hgn5
        go_wp2_with fail
        revert HRP HI6 HC6 m6
        generalize World.alloc _ _ = w6
        intro m6 HRP HI6 HC6
        refine HRP.out.mono ?_
        rintro e w7 ⟨v7, rfl, hown7, hb7⟩
        have HI7 := HI6.out.mono hb7
        have HC7 : Hid (Ch w w7 (fun k => ¬ D k)) := Lib.hid (HC6.out.trans (Ch.of_below (T := fun _ => False) hb7) (fun n hn => hn.elim))
        have hgb6 : gb < w6.heap.size := by
          obtain ⟨vb, cs, v, vl, k⟩ := HI6.out
          exact k.rd.lt
        obtain ⟨a7, c7, rfl, his7⟩ := own_is hown7 (by intro n hn; rw [List.eq_of_mem_replicate hn]; decide +kernel)
        have e8 : List.replicate a (8 : Int) = nis (List.replicate a 8) := by unfold nis; rw [List.map_replicate]; rfl
        rw [e8] at his7
        have HN := Lib.hid (irNums HI7 his7 (by
          intro ad e
          have := (hown7.lt ad.block (by rw [e]; rfl)).1
          omega) (by omega) (by intro c hc; rw [List.eq_of_mem_replicate hc]; omega))
        clear HI7 HI6 HC6 hown7 his7 e8 hb7 HRP m6
        go_wp2_with fail
        refine HN.out.mono ?_
        cases h2 : Ip.numbers (List.replicate a 8) (lob bs) q with
        | err n =>
          rintro e w8 ⟨hn, rfl, hch8⟩
          have HP : Hid (IrPost w D B gr gb p5 p6 bs most ls (Ip.storedP most s (lob bs) p) (.returned (.iface 39 (.int .i64 n))) w8) := Lib.hid (by
            rw [HS3.out, Ip.bind_err h2]; exact ⟨hn, rfl, HC7.out.trans hch8 (fun n hn => .inl hn)⟩)
          clear hch8 h2 hn
          go_wp2
          go_ret
          exact HP.out
        | ok ns r =>
          rintro e w8 ⟨v8, rfl, hown8, hir8, hch8⟩
          have hlt8 := Ip.numbers_lt 8 _ _ _ _ _ (by intro c hc; rw [List.eq_of_mem_replicate hc]; omega) h2
          have hl8 := Ip.numbers_length _ _ _ _ _ h2
          rw [List.length_replicate] at hl8
          have hln : ns.length ≤ 65536 := by omega
          obtain ⟨a8, c8, rfl, his8⟩ := own_is hown8 (by
            intro n hn
            obtain ⟨m, hm, rfl⟩ := List.mem_map.1 hn
            have := hlt8 m hm
            exact wf_int ⟨by omega, by omega⟩)
          have HS8 : Hid (Ip.storedP most s (lob bs) p = Ip.addsP most ns s (lob bs) r) := Lib.hid (by rw [HS3.out, Ip.bind_ok h2])
          obtain ⟨D8, hD8⟩ : ∃ D8 : Nat → Prop, D8 = fun k => D k ∨ (Value.slice a8 ns.length c8).ownBlock = some k := ⟨_, rfl⟩
          have hDl : ∀ k, D k → D8 k := fun k hk => by rw [hD8]; exact .inl hk
          have HDI : Hid (∀ ad, a8 = some ad → D8 ad.block) := Lib.hid (fun ad e => by rw [hD8, e]; exact .inr rfl)
          rw [← hD8] at hir8
          have HX : Hid (Ir w8 D8 B gr gb p5 p6 bs r most ls s ∧ Ch w8 w8 (fun k => ¬ D8 k) ∧ Ip.storedP most s (lob bs) p = Ip.addsP most (ns.drop 0) s (lob bs) r) := Lib.hid ⟨hir8, Ch.refl _ _, HS8.out⟩
          have HC8 : Hid (∀ wr, Ch w8 wr (fun k => ¬ D8 k) → Ch w wr (fun k => ¬ D k)) := Lib.hid (fun wr c => (HC7.out.trans hch8 (fun n hn => .inl hn)).trans c (fun n hn => .inl (fun hd => hn (hDl n hd))))
          have HIS := Lib.hid his8
          have HLT := Lib.hid hlt8
          clear hown8 hir8 hch8 h2 his8 hlt8 hl8 hD8 HS8 HN HC7 HS3 hfit
          go_wp2
          go_loopw [64] (fun i wr => ∃ j s2, j ≤ ns.length ∧ i = .int .i64 (j : Nat) ∧ Hid (Ir wr D8 B gr gb p5 p6 bs r most ls s2 ∧ Ch w8 wr (fun k => ¬ D8 k) ∧ Ip.storedP most s (lob bs) p = Ip.addsP most (ns.drop j) s2 (lob bs) r)) (fun i _ => ns.length - (intOf i).toNat)
          case atStart => exact ⟨0, s, by omega, rfl, HX⟩
          case round =>
            obtain ⟨j, s2, hj, rfl, HK⟩ := hrel
            obtain ⟨hir, hch, hsp⟩ := HK.out
            by_cases hlt : j < ns.length
            · obtain ⟨b8, off8, rfl, _, hcell⟩ := (HIS.out.kept hch (fun ad e hn => hn (HDI.out ad e))).at' j (by simpa [nis] using hlt)
              obtain ⟨x, hx⟩ : ∃ x, ns[j] = x := ⟨_, rfl⟩
              have hxx : (nis ns).getD j 0 = ((x : Nat) : Int) := by simp [nis, List.getD, List.getElem?_eq_getElem hlt, hx]
              have hx256 : x < 256 := by have := HLT.out ns[j] (List.getElem_mem hlt); omega
              have hcell2 : wr.cell? ⟨b8, off8 + j, none⟩ = some (.int .i64 ((x : Nat) : Int)) := by rw [← hxx]; exact hcell
              have hdr : ns.drop j = x :: ns.drop (j + 1) := by rw [← hx]; exact (List.getElem_cons_drop ..).symm
              have HS9 : Hid (Ip.storedP most s (lob bs) p = Ip.bind (Ip.addP most (0, ((x : Nat) : Int)) s2) (Ip.addsP most (ns.drop (j + 1))) (lob bs) r) := Lib.hid (by rw [hsp, hdr]; rfl)
              have g0 := hir.cell
              have HA := Lib.hid (irAdd hir (0, ((x : Nat) : Int)) (by unfold Tk.isTok; simp; omega))
              have HCH := Lib.hid hch
              clear hir hch hsp HK hcell hxx hdr hx
              go_wp2_with fail
              refine HA.out.mono ?_
              cases hy : Ip.addP most (0, ((x : Nat) : Int)) s2 (lob bs) r with
              | err n =>
                rintro e w9 ⟨hn, rfl, hch9⟩
                have HP : Hid (IrPost w D B gr gb p5 p6 bs most ls (Ip.storedP most s (lob bs) p) (.returned (.iface 39 (.int .i64 n))) w9) := Lib.hid (by
                  rw [HS9.out, Ip.bind_err hy]; exact ⟨hn, rfl, HC8.out _ (HCH.out.trans hch9 (fun n hn => .inl hn))⟩)
                clear hch9 hy hn
                go_wp2
                go_ret
                exact HP.out
              | ok s3 r3 =>
                rintro e w9 ⟨rfl, hir9, hch9⟩
                have hr3 : r3 = r := by
                  unfold Ip.addP at hy
                  split at hy
                  · cases hy; rfl
                  · cases hy
                subst hr3
                have HX9 : Hid (Ir w9 D8 B gr gb p5 p6 bs r3 most ls s3 ∧ Ch w8 w9 (fun k => ¬ D8 k) ∧ Ip.storedP most s (lob bs) p = Ip.addsP most (ns.drop (j + 1)) s3 (lob bs) r3) := Lib.hid ⟨hir9, HCH.out.trans hch9 (fun n hn => .inl hn), by rw [HS9.out, Ip.bind_ok hy]⟩
                clear hir9 hch9 hy
                go_wp2
                go_roundw
                case rel => exact ⟨j + 1, s3, by omega, by go_num, HX9⟩
                case measure => simp [intOf]; omega
            · obtain rfl : ns.length = j := by omega
              have HP : Hid (IrPost w D B gr gb p5 p6 bs most ls (Ip.storedP most s (lob bs) p) (.returned .nilIface) wr) := Lib.hid (by
                rw [hsp, List.drop_length]
                exact ⟨rfl, hir.less hDl, HC8.out _ hch⟩)
              clear hir hch hsp HK
              go_wp2
              go_ret
              exact HP.out
      · rw [if_neg hfit] at HS3
        have hd2 : decide (((most : Nat) : Int) - ((s.1.length : Nat) : Int) < ((a : Nat) : Int)) = true := by simp; omega
        have HP : Hid (∀ m, IrPost w D B gr gb p5 p6 bs most ls (Ip.storedP most s (lob bs) p) (.returned (.iface 39 (.int .i64 4))) (w4.drewN m)) := Lib.hid (fun m => by
          rw [HS3.out]; exact ⟨by decide, rfl, HC4.out.trans (Ch.of_below (T := fun _ => False) (dn_is w4 m)) (fun n hn => hn.elim)⟩)
        clear HI4 HC4 HS3
        go_wp2_with fail
        go_quiet (fail)
        go_wp2
        go_ret
        exact HP.out _
    · have HP : Hid (∀ m, IrPost w D B gr gb p5 p6 bs most ls (Ip.storedP most s (lob bs) p) (.returned (.iface 39 (.int .i64 2))) (w3.drewN m)) := Lib.hid (fun m => by
        have hx : ¬ bits .xor .i64 ((a : Nat) : Int) ((b : Nat) : Int) = 65535 := by simpa using hd
        have e : Ip.storedK most s a b (lob bs) q = .err 2 := by unfold Ip.storedK; rw [if_neg hx]; rfl
        rw [HS2.out, e]; exact ⟨by decide, rfl, HC3.out.trans (Ch.of_below (T := fun _ => False) (HBN.out m)) (fun n hn => hn.elim)⟩)
      clear HS2 HI3 HC3 HBN
      go_wp2_with fail
      go_quiet (fail)
      go_wp2
      go_ret
      exact HP.out _
end
end Go.Proofs.YtfgpmccmalddjaaDoor
end
