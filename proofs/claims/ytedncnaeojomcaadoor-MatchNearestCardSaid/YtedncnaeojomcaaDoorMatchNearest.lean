/- For all bytes (of at most 400, as the law itself asks), every place and every number of matches asked for, the finder hands over the document's list: of each length from 3 on the least distance, and distances don't decrease; as many as are asked for, or all. math/bits.deBruijn64tab holds what the library's text lays (the tied card). -/
import Derived.Test.YtedncnaeojomcaaDoorCards
import Derived.Test.YtedncnaeojomcaaDoorTie
import Derived.ProofKit
import Derived.Handy
import Derived.Lay
import Derived.SevenTiedAt
import Derived.Test.YtedncnaeojomcaaDoorRows
import Derived.Test.YtedncnaeojomcaaDoorOpen
import Derived.Test.YtedncnaeojomcaaDoorLzAt
import Derived.Test.YtedncnaeojomcaaDoorLzNearIt
import Derived.Test.YtedncnaeojomcaaDoorLzFinder0
import Derived.Test.YtedncnaeojomcaaDoorNumErr
namespace Go.Proofs.YtedncnaeojomcaaDoor.MatchNearest
open Go.ChangeShapes Go.WideShapes Go.ChangeAt Go.RowKit
open Go.ChangeMaps (open_string shut_string)
set_option linter.unusedVariables false
theorem own : ownKnob Tryd.prog.godebug = none := by kernel_rfl
theorem laidOut : laidOutB Tryd.prog = true := by kernel_rfl
open Go.Shelf
attribute [local go_sem] Oper.semAt_some
theorem res_bool (fn : Func) (hf : fn.results = #[.cell 6 4]) (tmps : Array Value) (w : World) (g : Nat) (b : Bool) (hp : tmps.getD 6 undef = .pointer (some ⟨g, 0, none⟩)) (hc : w.cell? ⟨g, 0, none⟩ = some (.bool b)) : (results fn tmps).run Tryd.prog w = .ok (.bool b) w := by
  have hp' : tmps[6]?.getD undef = .pointer (some ⟨g, 0, none⟩) := by simpa using hp
  have hu := run_underlying Tryd.underlying4 w
  simp [results, hf, hp', asAddr, loadVar, isAgg, Sem.run_bind, hu, Result.andThen, hc, go_sem]
theorem most_of (t : Int) : ∃ N : Nat, 1 ≤ N ∧ N ≤ 300 ∧ wrap64 (1 + wrap64 ((IntKind.u64.wrap t).tmod 300)) = (N : Int) := by
  have h0 : 0 ≤ IntKind.u64.wrap t := by
    show 0 ≤ t % (2 ^ 64 : Int)
    exact Int.emod_nonneg _ (by decide)
  have h1 := Int.tmod_nonneg 300 h0
  have h2 := Int.tmod_lt_of_pos (IntKind.u64.wrap t) (show (0 : Int) < 300 by decide)
  generalize (IntKind.u64.wrap t).tmod 300 = r at *
  obtain ⟨m, rfl⟩ := Int.eq_ofNat_of_zero_le h1
  refine ⟨m + 1, by omega, by omega, ?_⟩
  have e1 : wrap64 ((m : Nat) : Int) = (m : Int) := IntWalk.wrap64_in _ ⟨by omega, by omega⟩
  have e2 : wrap64 (1 + ((m : Nat) : Int)) = 1 + (m : Int) := IntWalk.wrap64_in _ ⟨by omega, by omega⟩
  rw [e1, e2]; omega
/-- The last distance that has come. -/
def lastv (pre : List (Nat × Nat)) : Nat := match pre.getLast? with | none => 0 | some x => x.2
theorem lastv_snoc (pre : List (Nat × Nat)) (x : Nat × Nat) : lastv (pre ++ [x]) = x.2 := by simp [lastv]
theorem lastv_le {l : List UInt8} {N : Nat} {p : Int} {R pre s : List (Nat × Nat)} {x : Nat × Nat} (h : RecAt l N p R) (hs : Lz.near R = pre ++ x :: s) : lastv pre ≤ x.2 := by
  rcases h with ⟨_, rfl⟩ | ⟨t, _, _, hrec⟩
  · simp [Lz.near, Lz.top_nil] at hs
  · have hx := Lz.near_pre hs
    cases hl : pre.getLast? with
    | none => unfold lastv; rw [hl]; exact Nat.zero_le _
    | some z =>
      obtain ⟨us, rfl⟩ := List.getLast?_eq_some_iff.1 hl
      rw [lastv_snoc]
      have hs2 : Lz.near R = us ++ z :: (x :: s) := by rw [hs]; simp
      have hz := Lz.near_pre hs2
      rw [hz.2, hx.2]
      simp only [List.length_append, List.length_cons, List.length_nil]
      have := hx.1
      simp only [List.length_append, List.length_cons, List.length_nil] at this
      exact Lz.far_mono hrec (by omega) (by omega) (by omega)
set_option maxRecDepth 100000 in
set_option maxHeartbeats 4000000 in
theorem walk (a : Option Addr) (len cap : Nat) (l : List UInt8) (p m : Int) (w : World) (h : Bs w a len cap l) (hr : cap ≤ 140737488351232) (hp : (Lit.int .i64 p).wf = true) (hm : (Lit.int .i64 m).wf = true) (hL : laidMetH Tryd.prog [("math/bits.deBruijn64tab", Rows.laid_math_bits_deBruijn64tab)] w) :
    Calls Tryd.prog 4 #[.slice a len cap, .int .i64 p, .int .i64 m] w fun e w' => e = .returned (.bool true) ∧ Below w.heap.size w w' := by
  obtain ⟨hdb, hdl⟩ := db_of_laid hL
  have HDB : Hid (∀ w', Below w.heap.size w w' → Db w' ∧ 0 < w'.heap.size) := Lib.hid (fun w' hb => ⟨hdb.kept hb hdl, Nat.lt_of_lt_of_le hdl hb.size⟩)
  have hle := h.hle
  have H := Lib.hid h
  have HP := Lib.hid hp
  clear h hp hL hdb hdl
  refine (callsIn_wide (n := 4)).1 ?_
  have hro : (Fence.wide).round = none := rfl
  refine callsIn_of_wp_marks Tryd.func4 rfl trivial ?_ hro
  simp only [Tryd.ntmps4, List.size_toArray, List.length_cons, List.length_nil, Nat.reduceAdd, Nat.reduceSub, Array.replicate_succ, Array.replicate_zero, List.push_toArray, List.append_toArray, List.nil_append, List.cons_append]
  gi_wp2_with fail
  have hb0 := below_alloc2 w (.cells #[.int .i64 m] 3) (.cells #[.bool false] 4)
  have hm0 : Boxed ((w.alloc (.cells #[.int .i64 m] 3)).alloc (.cells #[.bool false] 4)) w.heap.size 3 (.int .i64 m) := heap_alloc2_old _ _ _
  have hr0 : Boxed ((w.alloc (.cells #[.int .i64 m] 3)).alloc (.cells #[.bool false] 4)) (w.heap.size + 1) 4 (.bool false) := heap_alloc2_new _ _ _
  revert hb0 hm0 hr0
  generalize (w.alloc (.cells #[.int .i64 m] 3)).alloc (.cells #[.bool false] 4) = V0
  intro hb0 hm0 hr0
  refine ⟨trivial, (callsIn_wide.2 (alive08_any V0 (HDB.out _ hb0).1 (HDB.out _ hb0).2)).mono ?_⟩
  rintro e w1 ⟨rfl, hb1⟩
  have HB1 := Lib.hid (below_then hb0 hb1)
  have hm1 : Boxed w1 w.heap.size 3 (.int .i64 m) := (hb1.block _ hm0.lt).trans hm0
  have hr1 : Boxed w1 (w.heap.size + 1) 4 (.bool false) := (hb1.block _ hr0.lt).trans hr0
  clear hb0 hm0 hr0 hb1
  have cr1 := hr1.cell
  have fr1 := hr1.frozen
  by_cases hbig : 400 < len
  · have d1 : decide ((400 : Int) < (len : Int)) = true := by simp; omega
    have hr1' := hr1.set (.bool true)
    have hbb := HB1.out.setCell (p := ⟨w.heap.size + 1, 0, none⟩) (by show w.heap.size ≤ w.heap.size + 1; omega) (.bool true)
    clear hm1 hr1
    gi_wp2
    exact ⟨_, res_bool Tryd.f4 rfl _ _ (w.heap.size + 1) true rfl hr1'.cell, rfl, by exact hbb⟩
  have d1 : decide ((400 : Int) < (len : Int)) = false := by simp; omega
  have hdb1 := HDB.out w1 HB1.out
  gi_wp2_with fail
  refine ⟨trivial, (callsIn_wide.2 (newFinder_all a len cap l w1 (H.out.mono HB1.out) (by omega) hdb1.1 hdb1.2)).mono ?_⟩
  rintro e w2 ⟨gf, eb, v, Rs, rfl, hfd, _, _, hb2⟩
  have hm2 : Boxed w2 w.heap.size 3 (.int .i64 m) := (hb2.block _ hm1.lt).trans hm1
  have hr2 : Boxed w2 (w.heap.size + 1) 4 (.bool false) := (hb2.block _ hr1.lt).trans hr1
  have hz12 : w.heap.size + 1 < w1.heap.size := hr1.lt
  have hvl : ∀ b, v.ownBlock = some b → w1.heap.size ≤ b ∧ b < w2.heap.size := fun b hb => hfd.own.lt b hb
  obtain ⟨N, hN1, hN3, hN⟩ := most_of m
  have hm3 := hm2.set (.int .i64 (N : Nat))
  have hr3 := hr2.other (B' := w.heap.size) (by omega) (.int .i64 (N : Nat))
  have hb3 := (below_then HB1.out hb2).setCell (p := ⟨w.heap.size, 0, none⟩) (Nat.le_refl _) (.int .i64 (N : Nat))
  have hfd3 : Fd (w2.setCell ⟨w.heap.size, 0, none⟩ (.int .i64 (N : Nat))) gf eb w1.heap.size len l len v Rs := by
    have ch := (Ch.refl w2 (fun k => k = w.heap.size)).set (p := ⟨w.heap.size, 0, none⟩) (.inl rfl) (.int .i64 (N : Nat))
    refine fd_ch hfd ch ?_ ?_ (fun b hb e => by have := hvl b hb; omega)
    · intro e; have h1 := hfd.row; rw [e] at h1; rw [show w2.heap[w.heap.size]? = _ from hm2] at h1; simp at h1
    · intro e; obtain ⟨cs, h1, _⟩ := hfd.ends; rw [e] at h1; rw [show w2.heap[w.heap.size]? = _ from hm2] at h1; simp at h1
  have cm2 := hm2.cell
  have fm2 := hm2.frozen
  clear hm1 hr1 cr1 fr1 hdb1 hb2 hr2 hm2
  gi_wp2_with fail
  rw [hN]
  clear cm2 fm2 hN
  revert hm3 hr3 hb3 hfd3
  generalize w2.setCell ⟨w.heap.size, 0, none⟩ (.int .i64 (N : Nat)) = w3
  intro hm3 hr3 hb3 hfd3
  obtain ⟨R, hR⟩ : ∃ R, ra Rs p = R := ⟨_, rfl⟩
  have HRA : Hid (RecAt l len p R) := Lib.hid (by rw [← hR]; exact recAt_of hfd3.recs p)
  have HVL := Lib.hid (fun b (hb : v.ownBlock = some b) => hfd3.own.lt b hb)
  refine ⟨trivial, (callsIn_wide.2 (refNear_any a len cap l p R w3 (H.out.mono hb3) HP.out (by omega) HRA.out)).mono ?_⟩
  rintro e w4 ⟨v4, rfl, own4, hb4⟩
  obtain ⟨a4, c4, rfl, his⟩ := own_is own4 (wantI_wf HRA.out)
  have hm4 : Boxed w4 w.heap.size 3 (.int .i64 (N : Nat)) := (hb4.block _ hm3.lt).trans hm3
  have hr4 : Boxed w4 (w.heap.size + 1) 4 (.bool false) := (hb4.block _ hr3.lt).trans hr3
  have hfd4 := hfd3.below hb4
  have hb4' := below_then hb3 hb4
  have hz34 := hb4.size
  clear own4 hb4 hm3 hr3 hfd3 hb3 hfd hvl
  have hwl := recAt_top HRA.out
  have HWG : Hid (∀ i, i < Lz.top R - 2 → (wantI R).getD i 0 = ((Lz.far R (3 + i) : Nat) : Int)) := Lib.hid (fun i hi => wantI_getD R i hi)
  have HIS := Lib.hid his
  have hle4 := his.hle
  clear his
  gi_wp2_with fail
  generalize hwn : Lz.top R - 2 = wl at *
  have HWN := Lib.hid hwn
  clear hwn
  have hb5 : Below w4.heap.size w4 (((w4.alloc (.cells #[.slice a4 wl c4] 36)).alloc (.cells #[.int .i64 0] 3)).alloc (.cells #[.int .i64 0] 3)) := (below_alloc2 w4 _ _).alloc (by simp; omega) _
  have hs5 : Boxed (((w4.alloc (.cells #[.slice a4 wl c4] 36)).alloc (.cells #[.int .i64 0] 3)).alloc (.cells #[.int .i64 0] 3)) w4.heap.size 36 (.slice a4 wl c4) := ((Boxed.new w4 _ _).alloc _).alloc _
  have hk5 : Boxed (((w4.alloc (.cells #[.slice a4 wl c4] 36)).alloc (.cells #[.int .i64 0] 3)).alloc (.cells #[.int .i64 0] 3)) (w4.heap.size + 1) 3 (.int .i64 ((0 : Nat) : Int)) := by
    have := (Boxed.new (w4.alloc (.cells #[.slice a4 wl c4] 36)) 3 (.int .i64 ((0 : Nat) : Int))).alloc (.cells #[.int .i64 0] 3)
    rw [World.size_alloc] at this; exact this
  have hl5 : Boxed (((w4.alloc (.cells #[.slice a4 wl c4] 36)).alloc (.cells #[.int .i64 0] 3)).alloc (.cells #[.int .i64 0] 3)) (w4.heap.size + 1 + 1) 3 (.int .i64 ((0 : Nat) : Int)) := by
    have := Boxed.new ((w4.alloc (.cells #[.slice a4 wl c4] 36)).alloc (.cells #[.int .i64 0] 3)) 3 (.int .i64 ((0 : Nat) : Int))
    rw [World.size_alloc, World.size_alloc] at this; exact this
  revert hb5 hs5 hk5 hl5
  generalize ((w4.alloc (.cells #[.slice a4 wl c4] 36)).alloc (.cells #[.int .i64 0] 3)).alloc (.cells #[.int .i64 0] 3) = W5
  intro hb5 hs5 hk5 hl5
  refine ⟨trivial, (nearest_in Fence.wide 3 trivial rfl (.pointer (some ⟨gf, 0, none⟩)) p W5 (.inr ⟨gf, rfl⟩)).mono ?_⟩
  rintro e w' ⟨rfl, rfl⟩
  gi_wp2_with fail
  have hb7 := below_alloc2 W5 (.cells #[.pointer (some ⟨gf, 0, none⟩)] 25) (.cells #[.int .i64 p] 3)
  have hA7 : Boxed ((W5.alloc (.cells #[.pointer (some ⟨gf, 0, none⟩)] 25)).alloc (.cells #[.int .i64 p] 3)) W5.heap.size 25 (.pointer (some ⟨gf, 0, none⟩)) := heap_alloc2_old _ _ _
  have hB7 : Boxed ((W5.alloc (.cells #[.pointer (some ⟨gf, 0, none⟩)] 25)).alloc (.cells #[.int .i64 p] 3)) (W5.heap.size + 1) 3 (.int .i64 p) := heap_alloc2_new _ _ _
  revert hb7 hA7 hB7
  generalize (W5.alloc (.cells #[.pointer (some ⟨gf, 0, none⟩)] 25)).alloc (.cells #[.int .i64 p] 3) = W7
  intro hb7 hA7 hB7
  have hs7 : Boxed W7 w4.heap.size 36 (.slice a4 wl c4) := (hb7.block _ hs5.lt).trans hs5
  have hk7 : Boxed W7 (w4.heap.size + 1) 3 (.int .i64 ((0 : Nat) : Int)) := (hb7.block _ hk5.lt).trans hk5
  have hl7 : Boxed W7 (w4.heap.size + 1 + 1) 3 (.int .i64 ((0 : Nat) : Int)) := (hb7.block _ hl5.lt).trans hl5
  have hb47 := below_then hb5 hb7
  have hz47 : w4.heap.size + 2 < W5.heap.size := hl5.lt
  have hz57 : W5.heap.size + 1 < W7.heap.size := hB7.lt
  have hm7 : Boxed W7 w.heap.size 3 (.int .i64 (N : Nat)) := (hb47.block _ hm4.lt).trans hm4
  have hr7 : Boxed W7 (w.heap.size + 1) 4 (.bool false) := (hb47.block _ hr4.lt).trans hr4
  have hit := near_iter W5.heap.size (W5.heap.size + 1) gf eb w1.heap.size len p l v Rs (fun k => k = w4.heap.size + 1 ∨ k = w4.heap.size + 1 + 1) W7 hA7 hB7 (hfd4.below hb47) (by omega)
    (fun b hb => ⟨fun h => by have := HVL.out b hb; omega, by have := HVL.out b hb; omega⟩) (fun k hk => by omega)
  rw [hR] at hit
  have HB7 := Lib.hid (below_then hb4' hb47)
  have HB47 := Lib.hid hb47
  have HZ : Hid (w.heap.size + 1 < w4.heap.size ∧ w4.heap.size + 2 < W7.heap.size) := Lib.hid ⟨hr4.lt, by omega⟩
  have HS7 := Lib.hid hs7
  have HM7 := Lib.hid hm7
  have HR7 := Lib.hid hr7
  have hk7' := Lib.hid (And.intro hk7 hl7)
  clear hb5 hs5 hk5 hl5 hb7 hA7 hB7 hs7 hb47 hm7 hr7 hm4 hr4 hfd4 hb4' hR hk7 hl7 hz34 hz12
  apply range_iterF (F := Fence.wide) (n := 4) (P := Tryd.prog) (gf := 38) (lb := #[.pointer (some ⟨W5.heap.size, 0, none⟩), .pointer (some ⟨W5.heap.size + 1, 0, none⟩)]) (encs := nEnc) (hseq := hit)
    (I := fun pre W => Below (w4.heap.size + 1) W7 W ∧ Boxed W (w4.heap.size + 1) 3 (.int .i64 ((pre.length : Nat) : Int)) ∧ Boxed W (w4.heap.size + 1 + 1) 3 (.int .i64 ((lastv pre : Nat) : Int)) ∧ pre.length < N)
    (Ix := fun c pre W => c = .exit 0 ∧ pre.length = N ∧ Below (w4.heap.size + 1) W7 W ∧ Boxed W (w4.heap.size + 1) 3 (.int .i64 ((N : Nat) : Int)))
  case has =>
    intro k x A K hK
    simp only [nEnc]
    gi_wp2
    exact hK
  case hro => exact hro
  case h1 => omega
  case hg => rfl
  case hF => trivial
  case eg => exact enters_of Tryd.func38 (by kernel_rfl) rfl
  case hKt => exact fun h1 h2 => h1.trans h2
  case hKb => exact fun W l o o' hl hc => Bk.Kc.put W l o o' hl hc
  case hps => exact fun _ => rfl
  case hI =>
    rintro s A C row ⟨h1, h2, h3, h4⟩ hg hr
    have hz := HZ.out
    exact ⟨h1.grown hg (Nat.le_trans (by omega) h1.size) (fun r e => by have := hr r e; omega), (hg.block _ h2.lt (fun e => by have := hr _ e.symm; omega)).trans h2, (hg.block _ h3.lt (fun e => by have := hr _ e.symm; omega)).trans h3, h4⟩
  case hX =>
    rintro c s A C row ⟨h0, h1, h2, h3⟩ hg hr
    have hz := HZ.out
    exact ⟨h0, h1, h2.grown hg (Nat.le_trans (by omega) h2.size) (fun r e => by have := hr r e; omega), (hg.block _ h3.lt (fun e => by have := hr _ e.symm; omega)).trans h3⟩
  case h0 => exact ⟨Below.refl _ _, hk7'.out.1, hk7'.out.2, by show 0 < N; omega⟩
  case hbo =>
    rintro k pre x A ⟨h1, h2, h3, h4⟩ ⟨s, hs⟩
    have hz := HZ.out
    obtain ⟨hj, hx⟩ := Lz.near_pre hs
    rw [HWN.out] at hj
    have hlv := lastv_le HRA.out hs
    have HPL : Hid ((pre ++ [x]).length = pre.length + 1) := Lib.hid (by simp)
    have HLV : Hid (lastv (pre ++ [x]) = x.2) := Lib.hid (lastv_snoc _ _)
    obtain ⟨b4, o4, rfl, hlt4, hcw⟩ := HIS.out.at' pre.length hj
    rw [HWG.out _ hj] at hcw
    have hcA : A.cell? ⟨b4, o4 + pre.length, none⟩ = some (.int .i64 ((x.2 : Nat) : Int)) := by
      rw [h1.cell (p := ⟨b4, o4 + pre.length, none⟩) (by show b4 < w4.heap.size + 1; omega), HB47.out.cell (p := ⟨b4, o4 + pre.length, none⟩) hlt4, hcw, hx]
    have hx1 : x.1 = 3 + pre.length := by rw [hx]
    have hsA : Boxed A w4.heap.size 36 (.slice (some ⟨b4, o4, none⟩) wl c4) := (h1.block _ (by omega)).trans HS7.out
    have hmA : Boxed A w.heap.size 3 (.int .i64 (N : Nat)) := (h1.block _ (by omega)).trans HM7.out
    obtain ⟨x1, x2⟩ := x
    simp only at hx1 hlv hcA
    have cs := hsA.cell
    have cm := hmA.cell
    have ck := h2.cell
    have fk := h2.frozen
    have cl := h3.cell
    have fl := h3.frozen
    have hl' := h3.set (.int .i64 (x2 : Nat))
    have hk' := (h2.other (B' := w4.heap.size + 1 + 1) (by omega) (.int .i64 (x2 : Nat))).set (.int .i64 ((pre.length : Int) + 1))
    have hl'' := hl'.other (B' := w4.heap.size + 1) (by omega) (.int .i64 ((pre.length : Int) + 1))
    have HKF : Hid (KeepsFrom W7.heap.size A ((A.setCell ⟨w4.heap.size + 1 + 1, 0, none⟩ (.int .i64 (x2 : Nat))).setCell ⟨w4.heap.size + 1, 0, none⟩ (.int .i64 ((pre.length : Int) + 1)))) := Lib.hid (((KeepsOthers.setCell A _ _).trans (KeepsOthers.setCell _ _ _)).from _)
    have HKC : Hid (Bk.Kc (fun k => k = w4.heap.size + 1 ∨ k = w4.heap.size + 1 + 1) A ((A.setCell ⟨w4.heap.size + 1 + 1, 0, none⟩ (.int .i64 (x2 : Nat))).setCell ⟨w4.heap.size + 1, 0, none⟩ (.int .i64 ((pre.length : Int) + 1)))) := Lib.hid ((Bk.Kc.set (U := fun k => k = w4.heap.size + 1 ∨ k = w4.heap.size + 1 + 1) A ⟨w4.heap.size + 1 + 1, 0, none⟩ (.inr rfl) _).trans (Bk.Kc.set (U := fun k => k = w4.heap.size + 1 ∨ k = w4.heap.size + 1 + 1) _ ⟨w4.heap.size + 1, 0, none⟩ (.inl rfl) _))
    have HBB : Hid (Below (w4.heap.size + 1) W7 ((A.setCell ⟨w4.heap.size + 1 + 1, 0, none⟩ (.int .i64 (x2 : Nat))).setCell ⟨w4.heap.size + 1, 0, none⟩ (.int .i64 ((pre.length : Int) + 1)))) := Lib.hid ((h1.setCell (p := ⟨w4.heap.size + 1 + 1, 0, none⟩) (by show w4.heap.size + 1 ≤ w4.heap.size + 1 + 1; omega) _).setCell (p := ⟨w4.heap.size + 1, 0, none⟩) (Nat.le_refl _) _)
    have HK2 := Lib.hid hk'
    have HL2 := Lib.hid hl''
    clear h1 h2 h3 hsA hmA hl' hk' hl'' hit hx hcw hs hk7' HZ
    generalize hjj : pre.length = j at *
    have d2 : (((x1 : Nat) : Int) != 3 + (j : Int)) = false := by simp; omega
    have d3 : (((x2 : Nat) : Int) != ((x2 : Nat) : Int)) = false := by simp
    have d4 : decide (x2 < lastv pre) = false := by simp; omega
    have d5 : decide (wl ≤ j) = false := by simp; omega
    have d6 : decide (j < wl) = true := by simp; omega
    clear hjj hx1
    by_cases hjN : j + 1 = N
    · have d7 : ((j : Int) + 1 == (N : Int)) = true := by simp; omega
      have HJN := Lib.hid hjN
      clear hjN
      gi_wp2
      exact ⟨HKF.out, rfl, by rw [HPL.out]; exact HJN.out, HBB.out, by rw [← HJN.out]; exact HK2.out⟩
    · have d7 : ((j : Int) + 1 == (N : Int)) = false := by simp; omega
      gi_wp2
      exact ⟨HKF.out, HKC.out, HBB.out, by rw [HPL.out]; exact HK2.out, by rw [HLV.out]; exact HL2.out, by rw [HPL.out]; omega⟩
  case hend =>
    rintro ys W rfl ⟨h1, h2, _, h4⟩ hK
    have hz := HZ.out
    rw [Lz.near_length, HWN.out] at h2 h4
    have hmn : (if wl < N then (wl : Int) else (N : Int)) = (wl : Int) := if_pos h4
    have de : (((wl : Nat) : Int) == ((wl : Nat) : Int)) = true := by simp
    have hsW : Boxed W w4.heap.size 36 (.slice a4 wl c4) := (h1.block _ (by omega)).trans HS7.out
    have hmW : Boxed W w.heap.size 3 (.int .i64 (N : Nat)) := (h1.block _ (by omega)).trans HM7.out
    have hrW : Boxed W (w.heap.size + 1) 4 (.bool false) := (h1.block _ (by omega)).trans HR7.out
    have cs := hsW.cell
    have cm := hmW.cell
    have cr := hrW.cell
    have fr := hrW.frozen
    have ck := h2.cell
    have hrW' := hrW.set (.bool true)
    have hbW := (HB7.out.trans (h1.mono (by omega : w.heap.size ≤ w4.heap.size + 1))).setCell (p := ⟨w.heap.size + 1, 0, none⟩) (by show w.heap.size ≤ w.heap.size + 1; omega) (.bool true)
    have hD : (W.setCell ⟨w.heap.size + 1, 0, none⟩ (.bool true)).heap[W7.heap.size]? = some (.deferred (some [])) := (KeepsOthers.setCell W _ _).same _ _ hK rfl
    have hz7 : w.heap.size ≤ W7.heap.size := HB7.out.size
    have hne : w.heap.size + 1 ≠ W7.heap.size := by omega
    have HF := Lib.hid (And.intro hrW' (And.intro hbW (And.intro hD (And.intro hz7 hne))))
    clear h1 h2 hK hsW hmW hrW hrW' hbW hD hit hk7' hz HZ hz7 hne
    gi_wp2
    obtain ⟨q1, q2, q3, q4, q5⟩ := HF.out
    revert q1 q2 q3
    clear HF cs cm cr fr ck
    generalize W.setCell ⟨w.heap.size + 1, 0, none⟩ (.bool true) = Y
    intro q1 q2 q3
    refine ⟨by simp, .inl ⟨_, _, rfl, run_takeDeferred q3, ?_⟩⟩
    exact ⟨_, res_bool Tryd.f4 rfl _ _ (w.heap.size + 1) true rfl (q1.kept (grownBy_putObj' _ W7.heap.size (.deferred none)) (by simpa using q5)).cell, rfl, q2.grown (grownBy_putObj' Y W7.heap.size (.deferred none)) q2.size (fun r e => by cases e; exact q4)⟩
  case hout =>
    rintro c pre W ⟨s, hs⟩ ⟨rfl, h0, h1, h2⟩ hK
    have hz := HZ.out
    have hNl : N ≤ wl := by have := congrArg List.length hs; rw [Lz.near_length, HWN.out, List.length_append, h0] at this; omega
    have hmn : (if wl < N then (wl : Int) else (N : Int)) = (N : Int) := if_neg (by omega)
    have de : (((N : Nat) : Int) == ((N : Nat) : Int)) = true := by simp
    clear hs h0
    have hsW : Boxed W w4.heap.size 36 (.slice a4 wl c4) := (h1.block _ (by omega)).trans HS7.out
    have hmW : Boxed W w.heap.size 3 (.int .i64 (N : Nat)) := (h1.block _ (by omega)).trans HM7.out
    have hrW : Boxed W (w.heap.size + 1) 4 (.bool false) := (h1.block _ (by omega)).trans HR7.out
    have cs := hsW.cell
    have cm := hmW.cell
    have cr := hrW.cell
    have fr := hrW.frozen
    have ck := h2.cell
    have hrW' := hrW.set (.bool true)
    have hbW := (HB7.out.trans (h1.mono (by omega : w.heap.size ≤ w4.heap.size + 1))).setCell (p := ⟨w.heap.size + 1, 0, none⟩) (by show w.heap.size ≤ w.heap.size + 1; omega) (.bool true)
    have hD : (W.setCell ⟨w.heap.size + 1, 0, none⟩ (.bool true)).heap[W7.heap.size]? = some (.deferred (some [])) := (KeepsOthers.setCell W _ _).same _ _ hK rfl
    have hz7 : w.heap.size ≤ W7.heap.size := HB7.out.size
    have hne : w.heap.size + 1 ≠ W7.heap.size := by omega
    have HF := Lib.hid (And.intro hrW' (And.intro hbW (And.intro hD (And.intro hz7 hne))))
    clear h1 h2 hK hsW hmW hrW hrW' hbW hD hit hk7' hz HZ hz7 hne
    gi_wp2
    obtain ⟨q1, q2, q3, q4, q5⟩ := HF.out
    revert q1 q2 q3
    clear HF cs cm cr fr ck
    generalize W.setCell ⟨w.heap.size + 1, 0, none⟩ (.bool true) = Y
    intro q1 q2 q3
    refine ⟨by simp, .inl ⟨_, _, rfl, run_takeDeferred q3, ?_⟩⟩
    exact ⟨_, res_bool Tryd.f4 rfl _ _ (w.heap.size + 1) true rfl (q1.kept (grownBy_putObj' _ W7.heap.size (.deferred none)) (by simpa using q5)).cell, rfl, q2.grown (grownBy_putObj' Y W7.heap.size (.deferred none)) q2.size (fun r e => by cases e; exact q4)⟩
set_option maxRecDepth 100000 in
theorem lifted (os : Os) (started : os.Started) (H : Type) (enc : TypeId × Value → H) :
    ReturnsInHanded {} Tryd.checked os 4 .any (fun w args => (Rows.matchNearestSpec.pre enc Tryd.prog Tryd.f4 Rows.matchNearestRow.domain false w args ∧ laidMetH Tryd.prog [("math/bits.deBruijn64tab", Rows.laid_math_bits_deBruijn64tab)] w) ∧ sizedMet enc Tryd.prog Tryd.f4 (OpenSpec.ofChange Rows.matchNearestSpec) false w args)
      (Rows.matchNearestSpec.post enc Tryd.prog Tryd.f4 false true false false) := by
  refine returnsInHanded_of_change_and (C := Tryd.checked) (X := fun w _ => laidMetH Tryd.prog [("math/bits.deBruijn64tab", Rows.laid_math_bits_deBruijn64tab)] w) (fun _ _ _ hh h => h.of_heap hh) own started (by kernel_rfl) Tryd.func4
    (ChangeSpec.witness_shaped (enc := enc) (C := Tryd.checked) (os := os) (X := fun w _ => laidMetH Tryd.prog [("math/bits.deBruijn64tab", Rows.laid_math_bits_deBruijn64tab)] w) false (World.laidAll Tryd.prog os [("math/bits.deBruijn64tab", Rows.laid_math_bits_deBruijn64tab)]) #[.slice none 0 0, .int .i64 0, .int .i64 0] 8 (World.laidAll_os _ _ _)
      (World.shaped_of_ZipB (by kernel_rfl) (by kernel_rfl)) (by kernel_rfl) (by kernel_rfl) (by kernel_rfl)
      (by rw [MakeChecks.laidMetH_plain _ _ _ (by kernel_rfl)]; exact laidMet_laidAll _ (by kernel_rfl) (by kernel_rfl))) ?_
  intro W base args ds gs before hval0 hW _ hsz0 hL _
  have hval : ∀ (j : Nat) t v, Tryd.f4.params[j]? = some t → args[j]? = some v → Value.okWide Tryd.prog W .any base t v := hval0
  have hsz : (DataW.weightsEach Tryd.prog (Tryd.f4.params.toList ++ Rows.matchNearestSpec.plain.varTypes Tryd.prog) (ds ++ gs)).all (· ≤ reachBytes) = true := hsz0
  have hW' := hW
  obtain ⟨p, q, hA0, hV, rfl, hfz, hnd⟩ := hW
  have hA : DataW.TrodAll enc Tryd.prog W 0 (fun _ => true) true Tryd.f4.params.toList args.toList ds p := hA0
  rw [Tryd.params4] at hA hval hsz
  obtain ⟨v0, vs0, d0, ds0, p0, q0, hargs, rfl, rfl, h0, r0⟩ := trodAll_cons hA
  obtain ⟨v1, vs1, d1, ds1, p1, q1, rfl, rfl, rfl, h1, r1⟩ := trodAll_cons r0
  obtain ⟨v2, vs2, d2, ds2, p2, q2, rfl, rfl, rfl, h2, r2⟩ := trodAll_cons r1
  obtain ⟨rfl, rfl, rfl⟩ := trodAll_nil r2
  obtain rfl : args = #[v0, v1, v2] := by cases args; simp_all
  obtain ⟨rfl, rfl⟩ := trodVars_none hV
  clear hsz0
  obtain ⟨a0, len0, cap0, rfl⟩ := okWide_slice Tryd.underlying22 (hval 0 22 v0 rfl rfl)
  have k0 := h0
  have lt0 : ∀ x ∈ p0, x.block < W.heap.size := by obtain ⟨m, hm⟩ := k0; exact DataW.trod_lt m _ _ _ hm
  obtain ⟨l0, w0, c0⟩ := open_bs Tryd.underlying22 Tryd.underlying5 (by kernel_rfl) (by kernel_rfl) h0 hsz 0 rfl rfl
  obtain ⟨a1, rfl, rfl, rfl, w1⟩ := open_int Tryd.underlying3 (hval 1 3 v1 rfl rfl) h1
  obtain ⟨a2, rfl, rfl, rfl, w2⟩ := open_int Tryd.underlying3 (hval 2 3 v2 rfl rfl) h2
  clear hA0 hval0 hsz
  refine (walk a0 len0 cap0 l0 a1 a2 W w0 c0 w1 w2 hL).mono fun e W' ⟨he, bel⟩ => ?_
  subst he
  exact ⟨_, rfl, _, _, _, [], _, [], hW', trodAll_mk1 (shut_bool Tryd.underlying4 _), (trodAll_cons_mk (Below.trod laidOut (by kernel_rfl) (of_decide_eq_true (by kernel_rfl)) k0 bel lt0) (trodAll_cons_mk (shut_int Tryd.underlying3 w1) (trodAll_cons_mk (shut_int Tryd.underlying3 w2) trodAll_mk0))), rfl, bel.frame _, fun h => by cases h⟩

theorem proved : Rows.MatchNearestSaid :=
  OpenClaim.holds_of_wide 4 Tryd.f4 rfl rfl rfl rfl rfl rfl rfl ⟨rfl, rfl, rfl, rfl, rfl⟩ rfl rfl rfl rfl rfl (by kernel_rfl) Tryd.func4 (by kernel_rfl)
    (of_decide_eq_true (by kernel_rfl)) (by unfold Func.isWrapper; first | (rw [if_pos (by decide +kernel)]; kernel_rfl) | (rw [if_neg (by decide +kernel)]; exact ⟨rfl, rfl⟩))
    (fun os started H enc _ => lifted os started H enc)
theorem card : Rows.MatchNearestCardSaid :=
  Claim7.holds_tied_plain_at .later [] [.data] true (true, "9c3b2abeee23651ab0fc64ad9913698d22e09bcf74f6584c2c8b2754bc07b9cc") true proved (fun _ h => by cases h) (by kernel_rfl) (fun _ h => by cases h) matchNearest_row_tie rfl ⟨rfl, rfl⟩ (by kernel_rfl) rfl
    (fun f fn hf hfn => by
      obtain rfl : f = 4 := Option.some.inj ((show Tryd.prog.funcNamed "burnish/burnishlaw08.MatchNearest" = some 4 by kernel_rfl).symm.trans hf) |>.symm
      obtain rfl : fn = Tryd.f4 := (Option.some.inj (Tryd.func4.symm.trans hfn)).symm
      exact ⟨by kernel_rfl, fun j t ht => by
        rw [Tryd.params4] at ht
        have hm : t ∈ [22, 3, 3] := by simpa using Array.mem_of_getElem? ht
        have hall : ([22, 3, 3].all fun u => !Tryd.prog.wantsStandIn u) = true := by kernel_rfl
        exact (show Tryd.prog.wantsStandIn t = false by simpa using List.all_eq_true.1 hall t hm)⟩)
    (by kernel_rfl)
#print axioms proved
#print axioms card
end Go.Proofs.YtedncnaeojomcaaDoor.MatchNearest
