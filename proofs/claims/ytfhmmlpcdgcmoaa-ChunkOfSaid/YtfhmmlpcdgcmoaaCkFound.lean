/- The law's found: its contract. -/
import Derived.Test.YtfhmmlpcdgcmoaaCkHits
import Derived.Test.YtfhmmlpcdgcmoaaRegionWd
import Derived.Shelf.Abstract
import Derived.Test.YtfhmmlpcdgcmoaaCkAlive
import Derived.Test.YtfhmmlpcdgcmoaaNumSame
namespace Go.Proofs.Ytfhmmlpcdgcmoaa
open Go.RowKit Go.Shelf
attribute [local go_sem] Oper.semAt_some

theorem Ck.lg_ge (l : List Ck.C) : l.length * 20 ≤ Ck.lg l := by
  unfold Ck.lg
  induction l with
  | nil => simp
  | cons c l ih => simp only [List.map_cons, List.sum_cons, List.length_cons]; omega
/-- How many are asked for. -/
theorem nine_of (t : Int) : ∃ N : Nat, 1 ≤ N ∧ N ≤ 9 ∧ wrap64 (1 + wrap64 ((IntKind.u64.wrap t).tmod 9)) = (N : Int) := by
  have h0 : 0 ≤ IntKind.u64.wrap t := by
    show 0 ≤ t % (2 ^ 64 : Int)
    exact Int.emod_nonneg _ (by decide)
  have h1 := Int.tmod_nonneg 9 h0
  have h2 := Int.tmod_lt_of_pos (IntKind.u64.wrap t) (show (0 : Int) < 9 by decide)
  generalize (IntKind.u64.wrap t).tmod 9 = r at *
  obtain ⟨m, rfl⟩ := Int.eq_ofNat_of_zero_le h1
  refine ⟨m + 1, by omega, by omega, ?_⟩
  have e1 : wrap64 ((m : Nat) : Int) = (m : Int) := IntWalk.wrap64_in _ ⟨by omega, by omega⟩
  have e2 : wrap64 (1 + ((m : Nat) : Int)) = 1 + (m : Int) := IntWalk.wrap64_in _ ⟨by omega, by omega⟩
  rw [e1, e2]; omega
theorem res_bool (fn : Func) (hf : fn.results = #[.cell 8 4]) (tmps : Array Value) (w : World) (g : Nat) (b : Bool) (hp : tmps.getD 8 undef = .pointer (some ⟨g, 0, none⟩)) (hc : w.cell? ⟨g, 0, none⟩ = some (.bool b)) : (results fn tmps).run Try.prog w = .ok (.bool b) w := by
  have hp' : tmps[8]?.getD undef = .pointer (some ⟨g, 0, none⟩) := by simpa using hp
  have hu := run_underlying Try.underlying4 w
  simp [results, hf, hp', asAddr, loadVar, isAgg, Sem.run_bind, hu, Result.andThen, hc, go_sem]
/-- The four boxes of found's own. -/
structure Bx4 (w W : World) (lv nv : Value) (m : Int) : Prop where
  b0 : Boxed W w.heap.size 22 lv
  b1 : Boxed W (w.heap.size + 1) 9 nv
  b2 : Boxed W (w.heap.size + 1 + 1) 3 (.int .i64 m)
  b3 : Boxed W (w.heap.size + 1 + 1 + 1) 4 (.bool false)
theorem Bx4.below {w W W' : World} {lv nv : Value} {m : Int} {B : Nat} (h : Bx4 w W lv nv m) (hb : Below B W W') (hB : w.heap.size + 4 ≤ B) : Bx4 w W' lv nv m :=
  ⟨(hb.block _ (by omega)).trans h.b0, (hb.block _ (by omega)).trans h.b1, (hb.block _ (by omega)).trans h.b2, (hb.block _ (by omega)).trans h.b3⟩
theorem Bx4.new (w : World) (lv nv : Value) (m : Int) :
    Bx4 w ((((w.alloc (.cells #[lv] 22)).alloc (.cells #[nv] 9)).alloc (.cells #[.int .i64 m] 3)).alloc (.cells #[.bool false] 4)) lv nv m := by
  refine ⟨(((Boxed.new w _ _).alloc _).alloc _).alloc _, ?_, ?_, ?_⟩
  · have := ((Boxed.new (w.alloc (.cells #[lv] 22)) 9 nv).alloc (.cells #[.int .i64 m] 3)).alloc (.cells #[.bool false] 4)
    rw [World.size_alloc] at this; exact this
  · have := (Boxed.new ((w.alloc (.cells #[lv] 22)).alloc (.cells #[nv] 9)) 3 (.int .i64 m)).alloc (.cells #[.bool false] 4)
    rw [World.size_alloc, World.size_alloc] at this; exact this
  · have := Boxed.new (((w.alloc (.cells #[lv] 22)).alloc (.cells #[nv] 9)).alloc (.cells #[.int .i64 m] 3)) 4 (.bool false)
    rw [World.size_alloc, World.size_alloc, World.size_alloc] at this; exact this
theorem endsA_no (R : Act → World → Prop) : ¬ LetsOut (EndsA R) := fun ⟨_, _, h⟩ => h
theorem hmix : Try.prog.follows .mixedOrders = true := by kernel_rfl
/-- The number in a box. -/
def numIn (w : World) (b : Nat) : Nat := (intOf ((w.cell? ⟨b, 0, none⟩).getD undef)).toNat
theorem numIn_box {w : World} {b : Nat} {t : TypeId} {m : Nat} (h : Boxed w b t (.int .i64 (m : Nat))) : numIn w b = m := by unfold numIn; rw [h.cell]; simp [intOf]
theorem tail_any {kb i j Z : Nat} {w7 A wf : World} (hkz : kb + 1 < Z) (hB : Below kb w7 wf) (hk : Boxed wf kb 3 (.int .i64 ((j : Nat) : Int))) (ha : Boxed wf (kb + 1) 3 (.int .i64 ((i : Nat) : Int))) (hc : KeepsFrom Z A wf ∧ Bk.Kc (fun k => k = kb ∨ k = kb + 1 ∨ Z ≤ k) A wf) :
    KeepsFrom Z A ((wf.setCell ⟨kb + 1, 0, none⟩ (.int .i64 ((i : Int) + 1))).setCell ⟨kb, 0, none⟩ (.int .i64 ((j : Int) + 1))) ∧ Bk.Kc (fun k => k = kb ∨ k = kb + 1 ∨ Z ≤ k) A ((wf.setCell ⟨kb + 1, 0, none⟩ (.int .i64 ((i : Int) + 1))).setCell ⟨kb, 0, none⟩ (.int .i64 ((j : Int) + 1))) ∧
      Below kb w7 ((wf.setCell ⟨kb + 1, 0, none⟩ (.int .i64 ((i : Int) + 1))).setCell ⟨kb, 0, none⟩ (.int .i64 ((j : Int) + 1))) ∧ Boxed ((wf.setCell ⟨kb + 1, 0, none⟩ (.int .i64 ((i : Int) + 1))).setCell ⟨kb, 0, none⟩ (.int .i64 ((j : Int) + 1))) kb 3 (.int .i64 ((j + 1 : Nat) : Int)) ∧
      Boxed ((wf.setCell ⟨kb + 1, 0, none⟩ (.int .i64 ((i : Int) + 1))).setCell ⟨kb, 0, none⟩ (.int .i64 ((j : Int) + 1))) (kb + 1) 3 (.int .i64 ((i + 1 : Nat) : Int)) := by
  refine ⟨hc.1.trans (((KeepsOthers.setCell wf _ _).trans (KeepsOthers.setCell _ _ _)).from _), (hc.2.trans (Bk.Kc.set (U := fun k => k = kb ∨ k = kb + 1 ∨ Z ≤ k) wf ⟨kb + 1, 0, none⟩ (.inr (.inl rfl)) _)).trans (Bk.Kc.set (U := fun k => k = kb ∨ k = kb + 1 ∨ Z ≤ k) _ ⟨kb, 0, none⟩ (.inl rfl) _),
    (hB.setCell (p := ⟨kb + 1, 0, none⟩) (by show kb ≤ kb + 1; omega) _).setCell (p := ⟨kb, 0, none⟩) (Nat.le_refl _) _, ?_, ?_⟩
  · rw [Int.natCast_add]; exact (hk.other (B' := kb + 1) (by omega) _).set _
  · rw [Int.natCast_add]; exact (ha.set _).other (by omega) _
set_option pp.maxSteps 10000000
set_option pp.deepTerms true
set_option maxRecDepth 100000 in
set_option maxHeartbeats 4000000 in
theorem found_any (a ba : Option Addr) (len cap bl bc : Nat) (l : List Ckm) (nm bs : List UInt8) (m : Int) (w : World) (h : Cs w a len cap l) (hb : Bs w ba bl bc bs) (hr : len * 40 ≤ 140737488351232) (hd : ∀ c ∈ l, c.n.length ≤ 140737488351232 ∧ c.s.len ≤ 140737488351232) (hm : (Lit.int .i64 m).wf = true) :
    Calls Try.prog 8 #[.slice a len cap, .string (str nm), .int .i64 m, .slice ba bl bc] w fun e w' => e = .returned (.bool true) ∧ Below w.heap.size w w' := by
  have hle := h.hle
  have H := Lib.hid h
  have HB := Lib.hid hb
  have HD := Lib.hid hd
  clear h hb hd
  refine (callsIn_wide (n := 4)).1 ?_
  have hro : (Fence.wide).round = none := rfl
  refine callsIn_of_wp_marks Try.func8 rfl trivial ?_ hro
  simp only [Try.ntmps8, List.size_toArray, List.length_cons, List.length_nil, Nat.reduceAdd, Nat.reduceSub, Array.replicate_succ, Array.replicate_zero, List.push_toArray, List.append_toArray, List.nil_append, List.cons_append]
  gi_wp2_with fail
  have hx0 := Bx4.new w (.slice a len cap) (.string (str nm)) m
  have hb0 : Below w.heap.size w ((((w.alloc (.cells #[.slice a len cap] 22)).alloc (.cells #[.string (str nm)] 9)).alloc (.cells #[.int .i64 m] 3)).alloc (.cells #[.bool false] 4)) := ((below_alloc2 w _ _).alloc (by simp; omega) _).alloc (by simp; omega) _
  have hz0 : ((((w.alloc (.cells #[.slice a len cap] 22)).alloc (.cells #[.string (str nm)] 9)).alloc (.cells #[.int .i64 m] 3)).alloc (.cells #[.bool false] 4)).heap.size = w.heap.size + 4 := by simp
  revert hx0 hb0 hz0
  generalize (((w.alloc (.cells #[.slice a len cap] 22)).alloc (.cells #[.string (str nm)] 9)).alloc (.cells #[.int .i64 m] 3)).alloc (.cells #[.bool false] 4) = V0
  intro hx0 hb0 hz0
  refine ⟨trivial, (callsIn_wide.2 (alive12_any V0)).mono ?_⟩
  rintro e w1 ⟨rfl, hb1⟩
  have HB1 := Lib.hid (below_then hb0 hb1)
  have hx1 := hx0.below hb1 (by omega)
  have hz1 : w.heap.size + 4 ≤ w1.heap.size := by have := hb1.size; omega
  clear hx0 hb0 hz0 hb1
  have HX1 := Lib.hid hx1
  have cb0 := hx1.b0.cell
  clear hx1
  gi_wp2_with fail
  refine ⟨trivial, (callsIn_wide.2 (large_any a len cap l w1 (H.out.mono HB1.out) hr HD.out)).mono ?_⟩
  rintro e w2 ⟨rfl, hb2⟩
  have HB2 := Lib.hid (below_then HB1.out hb2)
  have hx2 := HX1.out.below hb2 (by omega)
  have hz2 : w.heap.size + 4 ≤ w2.heap.size := by have := hb2.size; omega
  clear hb2 HX1 cb0 hz1 HB1
  by_cases hbig : 10000 < Ck.lg (cps l)
  · have d1 : decide (10000 < Ck.lg (cps l)) = true := by simpa using hbig
    rw [d1]
    have cr := hx2.b3.cell
    have fr := hx2.b3.frozen
    have hr' := hx2.b3.set (.bool true)
    have hbb := HB2.out.setCell (p := ⟨w.heap.size + 1 + 1 + 1, 0, none⟩) (by show w.heap.size ≤ w.heap.size + 1 + 1 + 1; omega) (.bool true)
    clear hx2 hbig d1
    gi_wp2
    exact ⟨_, res_bool Try.f8 rfl _ _ (w.heap.size + 1 + 1 + 1) true rfl hr'.cell, rfl, by exact hbb⟩
  have d1 : decide (10000 < Ck.lg (cps l)) = false := by simpa using hbig
  rw [d1]
  have hlen : len ≤ 500 := by
    have := Ck.lg_ge (cps l)
    rw [cps_length, H.out.hlen] at this
    omega
  obtain ⟨N, hN1, hN9, hN⟩ := nine_of m
  have c2 := hx2.b2.cell
  have f2 := hx2.b2.frozen
  have hx3 : Bx4 w (w2.setCell ⟨w.heap.size + 1 + 1, 0, none⟩ (.int .i64 (N : Nat))) (.slice a len cap) (.string (str nm)) (N : Nat) :=
    ⟨hx2.b0.other (by omega) _, hx2.b1.other (by omega) _, hx2.b2.set _, hx2.b3.other (by omega) _⟩
  have hz3 : (w2.setCell ⟨w.heap.size + 1 + 1, 0, none⟩ (.int .i64 (N : Nat))).heap.size = w2.heap.size := by simp
  have hb3 := HB2.out.setCell (p := ⟨w.heap.size + 1 + 1, 0, none⟩) (by show w.heap.size ≤ w.heap.size + 1 + 1; omega) (.int .i64 (N : Nat))
  have hb5 := below_alloc2 (w2.setCell ⟨w.heap.size + 1 + 1, 0, none⟩ (.int .i64 (N : Nat))) (.cells #[.int .i64 0] 3) (.cells #[.int .i64 0] 3)
  have hk5 : Boxed (((w2.setCell ⟨w.heap.size + 1 + 1, 0, none⟩ (.int .i64 (N : Nat))).alloc (.cells #[.int .i64 0] 3)).alloc (.cells #[.int .i64 0] 3)) w2.heap.size 3 (.int .i64 ((0 : Nat) : Int)) := hz3 ▸ heap_alloc2_old (w2.setCell ⟨w.heap.size + 1 + 1, 0, none⟩ (.int .i64 (N : Nat))) (.cells #[.int .i64 0] 3) (.cells #[.int .i64 0] 3)
  have ha5 : Boxed (((w2.setCell ⟨w.heap.size + 1 + 1, 0, none⟩ (.int .i64 (N : Nat))).alloc (.cells #[.int .i64 0] 3)).alloc (.cells #[.int .i64 0] 3)) (w2.heap.size + 1) 3 (.int .i64 ((0 : Nat) : Int)) := hz3 ▸ heap_alloc2_new (w2.setCell ⟨w.heap.size + 1 + 1, 0, none⟩ (.int .i64 (N : Nat))) (.cells #[.int .i64 0] 3) (.cells #[.int .i64 0] 3)
  have hx5 := hx3.below hb5 (by rw [hz3]; omega)
  have hbb5 := below_then hb3 hb5
  have e0 := hx5.b0.cell
  have e1 := hx5.b1.cell
  clear hbig d1 hx2 hx3 hb3 hb5
  gi_wp2_with fail
  clear e0 e1 c2 f2 hN
  revert hk5 ha5 hx5 hbb5
  generalize ((w2.setCell ⟨w.heap.size + 1 + 1, 0, none⟩ (.int .i64 (N : Nat))).alloc (.cells #[.int .i64 0] 3)).alloc (.cells #[.int .i64 0] 3) = W5
  intro hk5 ha5 hx5 hbb5
  have hz5 : w2.heap.size + 1 < W5.heap.size := ha5.lt
  clear hz3 HB2
  generalize w2.heap.size = kb at *
  refine ⟨trivial, (callsIn_wide.2 (find_any a len cap l nm W5 (H.out.mono hbb5) (by omega) (fun c hc => (HD.out c hc).2))).mono ?_⟩
  rintro e w7 ⟨X, v, ms, rfl, hXz, hXb, hpl, hpi, hb7⟩
  have hk7 : Boxed w7 kb 3 (.int .i64 ((0 : Nat) : Int)) := (hb7.block _ hk5.lt).trans hk5
  have ha7 : Boxed w7 (kb + 1) 3 (.int .i64 ((0 : Nat) : Int)) := (hb7.block _ ha5.lt).trans ha5
  have HX7 := Lib.hid (hx5.below hb7 (by omega))
  have HB7 := Lib.hid (below_then hbb5 hb7)
  have HPI := Lib.hid hpi
  have hml : ms.length ≤ 500 := by have := hpi.len; rw [H.out.hlen] at this; omega
  have HZ : Hid (w.heap.size + 4 ≤ kb ∧ kb + 1 < W5.heap.size ∧ W5.heap.size ≤ X ∧ X < w7.heap.size) := Lib.hid ⟨hz2, hz5, hXz, hXb.lt⟩
  have hdl : ∀ c ∈ ms, c.2.s.len ≤ 140737488355328 := fun c hc => by
    have h1 := (hpi.2 c hc).2
    have h2 : c.1 ∈ hits l nm l.length := by rw [← hpi.1]; exact List.mem_map_of_mem hc
    have h3 : c.1 < l.length := by simp only [hits, List.mem_filter, List.mem_range] at h2; exact h2.1
    have h4 := (HD.out _ (nck_mem l c.1 h3)).2
    have h5 := (hpl.data c hc).1
    have h6 := (H.out.data (nck_mem l c.1 h3)).hlen
    rw [bvs_length, h1] at h5
    unfold Sl.at at *
    omega
  have hit := find_iter X W5.heap.size (fun k => k = kb ∨ k = kb + 1 ∨ w7.heap.size ≤ k) v ms w7 hXb hpl (by omega) hdl
    (fun g hg => by have := hpl.own.lt g hg; omega) (fun c hc g hg => by have := (hpl.data c hc).lt g hg; omega)
  clear hb7 hk5 ha5 hx5 hbb5 hXb hpl hpi hdl hXz hz5 hz2
  gi_wp2_with fail
  have hk7' := Lib.hid (And.intro hk7 ha7)
  clear hk7 ha7
  apply range_iterC (F := Fence.wide) (n := 4) (P := Try.prog) (gf := 49) (lb := #[.pointer (some ⟨X, 0, none⟩)]) (encs := plEnc) (hseq := hit)
    (I := fun pre W => Below kb w7 W ∧ Boxed W kb 3 (.int .i64 ((pre.length : Nat) : Int)) ∧ Boxed W (kb + 1) 3 (.int .i64 ((atv pre : Nat) : Int)) ∧ pre.length < N)
    (Ix := fun c pre W => c = .exit 0 ∧ pre.length = N ∧ Below kb w7 W ∧ Boxed W kb 3 (.int .i64 ((N : Nat) : Int)))
    (obj := fun x => .cells #[.string (str x.2.n), .slice x.2.s.a x.2.s.len x.2.s.cap] 52)
  case has =>
    intro k x A Bx K hBx hK
    simp only [plEnc, Sl.val]
    gi_wp2
    rw [← hBx]
    exact hK
  case hro => exact hro
  case h1 => omega
  case hg => rfl
  case hF => trivial
  case eg => exact enters_of Try.func49 (by kernel_rfl) rfl
  case hKt => exact fun h1 h2 => h1.trans h2
  case hKb => exact fun W l o o' hl hc => Bk.Kc.put W l o o' hl hc
  case hKa => exact fun _ _ => Bk.Kc.alloc _ _ _
  case hob => exact fun _ => rfl
  case hps => exact fun _ => rfl
  case hAt =>
    intro x A A' h1 h2
    exact Bk.own_kc (U := fun _ => False) h1 (fun k o hk ho _ => h2 k o hk ho) (fun _ _ h => h)
  case hI =>
    rintro s A C ⟨h1, h2, h3, h4⟩ hb
    have hz := HZ.out
    exact ⟨h1.trans (hb.mono (by omega)), (hb.block _ (by omega)).trans h2, (hb.block _ (by omega)).trans h3, h4⟩
  case hX =>
    rintro c s A C ⟨h0, h1, h2, h3⟩ hb
    have hz := HZ.out
    exact ⟨h0, h1, h2.trans (hb.mono (by omega)), (hb.block _ (by omega)).trans h3⟩
  case h0 => exact ⟨Below.refl _ _, hk7'.out.1, hk7'.out.2, by show 0 < N; omega⟩
  case hbo =>
    rintro k pre x A Bx ⟨h1, h2, h3, h4⟩ ⟨s, hs⟩ hat hbx hbl hobx
    obtain ⟨n1, n2, n3, n4, n5, n6⟩ := plis_next HPI.out hs
    have hz := HZ.out
    obtain ⟨xa, xn, sa, sl, sc, sd⟩ := x
    simp only at n1 n2 n3 n4 n5 n6 hobx
    subst n5
    have HN4 := Lib.hid n4
    have hxl : xa < len := by rw [H.out.hlen] at n2; exact n2
    have HKK : Hid (KeepsFrom w7.heap.size A A ∧ Bk.Kc (fun k => k = kb ∨ k = kb + 1 ∨ w7.heap.size ≤ k) A A) := Lib.hid ⟨KeepsFrom.refl _ _, Bk.Kc.refl _ _⟩
    have HO := Lib.hid hobx
    have HAT := Lib.hid hat
    have HA1 := Lib.hid h1
    have HA2 := Lib.hid h2
    have HA3 := Lib.hid h3
    clear hit hs hat hobx h1 h2 h3 n2 n4
    gi_wp2
    gi_loopw [] (fun wr => ∃ i : Nat, atv pre ≤ i ∧ i ≤ xa ∧ Hid (Below kb w7 wr) ∧ Hid (Boxed wr kb 3 (.int .i64 ((pre.length : Nat) : Int))) ∧ Hid (Boxed wr (kb + 1) 3 (.int .i64 ((i : Nat) : Int))) ∧ Hid (wr.heap[Bx]? = some (.cells #[.string (str xn), .slice sa sl sc] 52)) ∧ Hid (AtC w7.heap.size (xa, ⟨xn, ⟨sa, sl, sc, sd⟩⟩) wr) ∧ Hid (KeepsFrom w7.heap.size A wr ∧ Bk.Kc (fun k => k = kb ∨ k = kb + 1 ∨ w7.heap.size ≤ k) A wr)) (fun wr => xa + 1 - numIn wr (kb + 1))
    case atStart => exact ⟨atv pre, Nat.le_refl _, n1, HA1, HA2, HA3, HO, HAT, HKK⟩
    case round =>
      clear HO HAT HA1 HA2 HA3 HKK
      obtain ⟨i, hi1, hi2, HBW, HKB, HAB, HO, HAT, HKK⟩ := hrel
      have hwz := HB7.out.size
      have hbwr : Below w.heap.size w wr := HB7.out.trans (HBW.out.mono (by omega))
      obtain ⟨lb, lo, rfl, hlb, q0', q1', hq'⟩ := H.out.at' i (by omega)
      have q0 := (hbwr.cell (p := ⟨lb, lo + i * 2, none⟩) hlb).trans q0'
      have q1 := (hbwr.cell (p := ⟨lb, lo + i * 2 + 1, none⟩) hlb).trans q1'
      have hq := Bs.mono hq' hbwr
      have HY0 : Hid (0 < (nck l i).s.len → ∃ b off, (nck l i).s.a = some ⟨b, off, none⟩ ∧ b < w.heap.size) := Lib.hid (fun h => by
        obtain ⟨b, off, e, hb, _⟩ := hq'.at' 0 h
        exact ⟨b, off, e, hb⟩)
      clear q0' q1' hq'
      have HX := Lib.hid (HX7.out.below HBW.out hz.1)
      have HNI : Hid (i < xa → (nck l i).n ≠ xn) := Lib.hid (fun h => HN4.out i hi1 h)
      have HNX : Hid (i = xa → (nck l i).n = xn) := Lib.hid (fun h => by rw [h]; exact n3)
      have HN6 : Hid (i = xa → sd = (nck l i).s.l) := Lib.hid (fun h => by rw [h]; exact n6)
      have HYL : Hid ((nck l i).s.len ≤ 140737488351232) := Lib.hid (HD.out (nck l i) (nck_mem l i (by rw [H.out.hlen]; omega))).2
      generalize nck l i = y at *
      obtain ⟨yn, ya, yl, yc, yd⟩ := y
      unfold Sl.val at q1
      simp only at q0 q1 HN6 HYL HY0
      have HQB : Hid (Bs wr ya yl yc yd) := Lib.hid hq
      have HQ1 := Lib.hid q1
      have HLB := Lib.hid hlb
      obtain ⟨bb, hbb⟩ : ∃ bb, (yn == xn) = bb := ⟨_, rfl⟩
      have hie : ((str yn).toList == (str xn).toList) = bb := by rw [str_list, str_list]; exact hbb
      have HBQ : Hid (bb = true ↔ yn = xn) := Lib.hid (by rw [← hbb]; simp)
      have dlt : decide (i < len) = true := by simp; omega
      have hil : i < len := by omega
      have hSS : wr.drew.cell? ⟨kb + 1, 0, none⟩ = some (.int .i64 (i : Nat)) ∧ wr.drew.cell? ⟨w.heap.size, 0, none⟩ = some (.slice (some ⟨lb, lo, none⟩) len cap) ∧ wr.drew.cell? ⟨w.heap.size + 1, 0, none⟩ = some (.string (str xn)) ∧ wr.drew.cell? ⟨lb, lo + i * 2, none⟩ = some (.string (str yn)) :=
        ⟨HAB.out.cell, HX.out.b0.cell, HX.out.b1.cell, q0⟩
      have HSS := Lib.hid hSS
      clear hSS hq q0 q1 hbb hlb hbwr
      gi_wp2_with fail
      refine Go.wpIn_mono (region_round (Q := EndsA (fun a' w' => (∃ z31 z32 z33 z34 z35 z36 z37 z38 z39 z40 z41 z42 : Value, a' = { tmps := #[.slice (some ⟨lb, lo, none⟩) len cap, .string (str xn), .int .i64 m, .slice ba bl bc, .pointer (some ⟨w.heap.size, 0, none⟩), .pointer (some ⟨w.heap.size + 1, 0, none⟩), .pointer (some ⟨w.heap.size + 1 + 1, 0, none⟩), undef, .pointer (some ⟨w.heap.size + 1 + 1 + 1, 0, none⟩), .pointer (some ⟨kb, 0, none⟩), .pointer (some ⟨kb + 1, 0, none⟩), .int .i64 (xa : Nat), .pointer (some ⟨Bx, 0, none⟩), undef, undef, undef, undef, .bool true, .bool false, .slice (some ⟨lb, lo, none⟩) len cap, .bool false, .int .i64 m, .int .u64 (IntKind.u64.wrap m), .int .u64 ((IntKind.u64.wrap m).tmod 9), .int .i64 (wrap64 ((IntKind.u64.wrap m).tmod 9)), .int .i64 (wrap64 (1 + wrap64 ((IntKind.u64.wrap m).tmod 9))), .slice (some ⟨lb, lo, none⟩) len cap, .string (str xn), .func (.func 49) #[] #[.pointer (some ⟨X, 0, none⟩)], .int .i64 (xa : Nat), .agg #[.string (str xn), .slice sa sl sc], z31, z32, z33, z34, z35, z36, z37, z38, z39, z40, z41, z42, .bool (!bb), u44, u45, undef, undef, undef, undef, undef, undef, undef, undef, undef, undef, undef, undef, undef, undef, undef, undef, undef, undef, undef, undef, undef, undef, undef, undef, undef, undef, undef, undef, undef, undef, undef, undef, undef, undef, undef, undef, undef, undef, undef, undef, undef, undef, undef, undef, undef, undef, undef, undef, undef, undef, undef, undef, undef, undef, undef, undef, undef, undef, undef, undef, undef, undef, undef, undef, undef, undef, undef, undef, undef, undef, undef, undef, undef, undef, undef, undef, undef, undef, undef, undef, undef, undef, undef, undef, undef, undef, undef, undef, undef, undef], defers := [] }) ∧ w' = wr.drew))
        (fun w' : World => w'.cell? ⟨kb + 1, 0, none⟩ = some (.int .i64 (i : Nat)) ∧ w'.cell? ⟨w.heap.size, 0, none⟩ = some (.slice (some ⟨lb, lo, none⟩) len cap) ∧ w'.cell? ⟨w.heap.size + 1, 0, none⟩ = some (.string (str xn)) ∧ w'.cell? ⟨lb, lo + i * 2, none⟩ = some (.string (str yn))) hmix (by kernel_rfl) (endsA_no _) ?_) ?_
      case refine_1 =>
          skip
          refine H_take (i := 0) (v := ?_) rfl (by kernel_rfl) (by kernel_rfl) (by kernel_rfl) (fun _ _ _ h => h.elim) HSS.out (by rfl) ?_ ?_
          rotate_left
          · (intro w' hw'; obtain ⟨j0, j1, j2, j3⟩ := hw'; first | (go_simp; done) | (go_simp; with_reducible rfl))
          try simp only [List.getElem_toArray, List.getElem_cons_zero, List.getElem_cons_succ, Act.put, List.setIfInBounds_toArray, List.set_cons_zero, List.set_cons_succ]
          refine H_take (i := 1) (v := ?_) rfl (by kernel_rfl) (by kernel_rfl) (by kernel_rfl) (fun _ _ _ h => h.elim) HSS.out (by rfl) ?_ ?_
          rotate_left
          · (intro w' hw'; obtain ⟨j0, j1, j2, j3⟩ := hw'; first | (go_simp; done) | (go_simp; with_reducible rfl))
          try simp only [List.getElem_toArray, List.getElem_cons_zero, List.getElem_cons_succ, Act.put, List.setIfInBounds_toArray, List.set_cons_zero, List.set_cons_succ]
          refine H_take (i := 2) (v := ?_) rfl (by kernel_rfl) (by kernel_rfl) (by kernel_rfl) (fun _ _ _ h => h.elim) HSS.out (by rfl) ?_ ?_
          rotate_left
          · (intro w' hw'; obtain ⟨j0, j1, j2, j3⟩ := hw'; first | (go_simp; done) | (go_simp; with_reducible rfl))
          try simp only [List.getElem_toArray, List.getElem_cons_zero, List.getElem_cons_succ, Act.put, List.setIfInBounds_toArray, List.set_cons_zero, List.set_cons_succ]
          refine H_take (i := 3) (v := ?_) rfl (by kernel_rfl) (by kernel_rfl) (by kernel_rfl) (fun _ _ _ h => h.elim) HSS.out (by rfl) ?_ ?_
          rotate_left
          · (intro w' hw'; obtain ⟨j0, j1, j2, j3⟩ := hw'; first | (go_simp; done) | (go_simp; with_reducible rfl))
          try simp only [List.getElem_toArray, List.getElem_cons_zero, List.getElem_cons_succ, Act.put, List.setIfInBounds_toArray, List.set_cons_zero, List.set_cons_succ]
          refine H_take (i := 4) (v := ?_) rfl (by kernel_rfl) (by kernel_rfl) (by kernel_rfl) (fun _ _ _ h => h.elim) HSS.out (by rfl) ?_ ?_
          rotate_left
          · (intro w' hw'; obtain ⟨j0, j1, j2, j3⟩ := hw'; first | (go_simp; done) | (go_simp; with_reducible rfl))
          try simp only [List.getElem_toArray, List.getElem_cons_zero, List.getElem_cons_succ, Act.put, List.setIfInBounds_toArray, List.set_cons_zero, List.set_cons_succ]
          refine H_take (i := 5) (v := ?_) rfl (by kernel_rfl) (by kernel_rfl) (by kernel_rfl) (fun _ _ _ h => h.elim) HSS.out (by rfl) ?_ ?_
          rotate_left
          · (intro w' hw'; obtain ⟨j0, j1, j2, j3⟩ := hw'; first | (go_simp; done) | (go_simp; with_reducible rfl))
          try simp only [List.getElem_toArray, List.getElem_cons_zero, List.getElem_cons_succ, Act.put, List.setIfInBounds_toArray, List.set_cons_zero, List.set_cons_succ]
          refine H_take (i := 6) (v := ?_) rfl (by kernel_rfl) (by kernel_rfl) (by kernel_rfl) (fun _ _ _ h => h.elim) HSS.out (by rfl) ?_ ?_
          rotate_left
          · (intro w' hw'; obtain ⟨j0, j1, j2, j3⟩ := hw'; first | (go_simp; done) | (go_simp; with_reducible rfl))
          try simp only [List.getElem_toArray, List.getElem_cons_zero, List.getElem_cons_succ, Act.put, List.setIfInBounds_toArray, List.set_cons_zero, List.set_cons_succ]
          refine H_take (i := 7) (v := ?_) rfl (by kernel_rfl) (by kernel_rfl) (by kernel_rfl) (fun _ _ _ h => h.elim) HSS.out (by rfl) ?_ ?_
          rotate_left
          · (intro w' hw'; obtain ⟨j0, j1, j2, j3⟩ := hw'; first | (go_simp; done) | (go_simp; with_reducible rfl))
          try simp only [List.getElem_toArray, List.getElem_cons_zero, List.getElem_cons_succ, Act.put, List.setIfInBounds_toArray, List.set_cons_zero, List.set_cons_succ]
          refine H_take (i := 8) (v := ?_) rfl (by kernel_rfl) (by kernel_rfl) (by kernel_rfl) (fun _ _ _ h => h.elim) HSS.out (by rfl) ?_ ?_
          rotate_left
          · (intro w' hw'; obtain ⟨j0, j1, j2, j3⟩ := hw'; first | (go_simp; done) | (go_simp; with_reducible rfl))
          try simp only [List.getElem_toArray, List.getElem_cons_zero, List.getElem_cons_succ, Act.put, List.setIfInBounds_toArray, List.set_cons_zero, List.set_cons_succ]
          refine H_take (i := 9) (v := ?_) rfl (by kernel_rfl) (by kernel_rfl) (by kernel_rfl) (fun _ _ _ h => h.elim) HSS.out (by rfl) ?_ ?_
          rotate_left
          · (intro w' hw'; obtain ⟨j0, j1, j2, j3⟩ := hw'; first | (go_simp; done) | (go_simp; with_reducible rfl))
          try simp only [List.getElem_toArray, List.getElem_cons_zero, List.getElem_cons_succ, Act.put, List.setIfInBounds_toArray, List.set_cons_zero, List.set_cons_succ]
          refine H_take (i := 10) (v := ?_) rfl (by kernel_rfl) (by kernel_rfl) (by kernel_rfl) (fun _ _ _ h => h.elim) HSS.out (by rfl) ?_ ?_
          rotate_left
          · (intro w' hw'; obtain ⟨j0, j1, j2, j3⟩ := hw'; first | (go_simp; done) | (go_simp; with_reducible rfl))
          try simp only [List.getElem_toArray, List.getElem_cons_zero, List.getElem_cons_succ, Act.put, List.setIfInBounds_toArray, List.set_cons_zero, List.set_cons_succ]
          refine H_take (i := 11) (v := ?_) rfl (by kernel_rfl) (by kernel_rfl) (by kernel_rfl) (fun _ _ _ h => h.elim) HSS.out (by rfl) ?_ ?_
          rotate_left
          · (intro w' hw'; obtain ⟨j0, j1, j2, j3⟩ := hw'; first | (go_simp; done) | (go_simp; with_reducible rfl))
          try simp only [List.getElem_toArray, List.getElem_cons_zero, List.getElem_cons_succ, Act.put, List.setIfInBounds_toArray, List.set_cons_zero, List.set_cons_succ]
          refine H_take (i := 12) (v := ?_) rfl (by kernel_rfl) (by kernel_rfl) (by kernel_rfl) (fun _ _ _ h => h.elim) HSS.out (by rfl) ?_ ?_
          rotate_left
          · (intro w' hw'; obtain ⟨j0, j1, j2, j3⟩ := hw'; first | (go_simp; done) | (go_simp; with_reducible rfl))
          try simp only [List.getElem_toArray, List.getElem_cons_zero, List.getElem_cons_succ, Act.put, List.setIfInBounds_toArray, List.set_cons_zero, List.set_cons_succ]
          refine wpAnyH_done (by kernel_rfl) ?_ _
          exact ⟨⟨_, _, _, _, _, _, _, _, _, _, _, _, rfl⟩, rfl⟩
      case refine_2 =>
        intro e a' w' he
        cases e with
        | normal =>
          obtain ⟨⟨z31, z32, z33, z34, z35, z36, z37, z38, z39, z40, z41, z42, rfl⟩, rfl⟩ := he
          have HM : Hid (numIn wr (kb + 1) = i) := Lib.hid (numIn_box HAB.out)
          have HBD : Hid (Below kb w7 wr.drew) := Lib.hid (HBW.out.trans ((Below.refl kb wr).drew))
          have hkd : Boxed wr.drew kb 3 (.int .i64 ((pre.length : Nat) : Int)) := HKB.out
          have had : Boxed wr.drew (kb + 1) 3 (.int .i64 ((i : Nat) : Int)) := HAB.out
          have hod : wr.drew.heap[Bx]? = some (.cells #[.string (str xn), .slice sa sl sc] 52) := HO.out
          have hatd : AtC w7.heap.size (xa, ⟨xn, ⟨sa, sl, sc, sd⟩⟩) wr.drew := HAT.out
          have hkkd : KeepsFrom w7.heap.size A wr.drew ∧ Bk.Kc (fun k => k = kb ∨ k = kb + 1 ∨ w7.heap.size ≤ k) A wr.drew := ⟨⟨HKK.out.1.size, HKK.out.1.same⟩, HKK.out.2⟩
          have hxd : Bx4 w wr.drew (.slice (some ⟨lb, lo, none⟩) len cap) (.string (str xn)) (N : Nat) := ⟨HX.out.b0, HX.out.b1, HX.out.b2, HX.out.b3⟩
          have hqd : wr.drew.cell? ⟨lb, lo + i * 2 + 1, none⟩ = some (.slice ya yl yc) := HQ1.out
          have hqb : Bs wr.drew ya yl yc yd := HQB.out.mono ((Below.refl _ wr).drew)
          clear HSS HBW HKB HAB HO HAT HKK hie HX HQ1 HQB HLB
          revert HBD hkd had hod hatd hkkd hxd hqd hqb
          generalize wr.drew = wd
          intro HBD hkd had hod hatd hkkd hxd hqd hqb
          cases bb with
          | false =>
            have hlt : i < xa := by
              rcases Nat.lt_or_ge i xa with h | h
              · exact h
              · exact absurd (HBQ.out.2 (HNX.out (by omega))) (by simp)
            have ca := had.cell
            have fa := had.frozen
            have HNB := Lib.hid (HBD.out.setCell (p := ⟨kb + 1, 0, none⟩) (by show kb ≤ kb + 1; omega) (.int .i64 ((i : Int) + 1)))
            have HNK := Lib.hid (hkd.other (B' := kb + 1) (by omega) (.int .i64 ((i : Int) + 1)))
            have HNA : Hid (Boxed (wd.setCell ⟨kb + 1, 0, none⟩ (.int .i64 ((i : Int) + 1))) (kb + 1) 3 (.int .i64 ((i + 1 : Nat) : Int))) := Lib.hid (by rw [Int.natCast_add]; exact had.set _)
            have HNO : Hid ((wd.setCell ⟨kb + 1, 0, none⟩ (.int .i64 ((i : Int) + 1))).heap[Bx]? = some (.cells #[.string (str xn), .slice sa sl sc] 52)) := Lib.hid ((Below.heap_setCell wd ⟨kb + 1, 0, none⟩ _ Bx (by show Bx ≠ kb + 1; omega)).trans hod)
            have HNT : Hid (AtC w7.heap.size (xa, ⟨xn, ⟨sa, sl, sc, sd⟩⟩) (wd.setCell ⟨kb + 1, 0, none⟩ (.int .i64 ((i : Int) + 1)))) := Lib.hid (Bk.own_kc (U := fun k => k = kb + 1) hatd (Bk.Kc.set (U := fun k => k = kb + 1) wd ⟨kb + 1, 0, none⟩ rfl _) (fun g hg e => by have := (hatd.lt g hg).1; omega))
            have HNQ : Hid (KeepsFrom w7.heap.size A (wd.setCell ⟨kb + 1, 0, none⟩ (.int .i64 ((i : Int) + 1))) ∧ Bk.Kc (fun k => k = kb ∨ k = kb + 1 ∨ w7.heap.size ≤ k) A (wd.setCell ⟨kb + 1, 0, none⟩ (.int .i64 ((i : Int) + 1)))) :=
              Lib.hid ⟨hkkd.1.trans ((KeepsOthers.setCell wd _ _).from _), hkkd.2.trans (Bk.Kc.set (U := fun k => k = kb ∨ k = kb + 1 ∨ w7.heap.size ≤ k) wd ⟨kb + 1, 0, none⟩ (.inr (.inl rfl)) _)⟩
            clear hkd had hod hatd hkkd HBD hxd hqd hqb
            simp only [Bool.not_false]
            gi_wp2
            go_roundw
            case rel => exact ⟨_, _, _, _, _, _, _, _, _, _, _, _, _, _, _, ⟨i + 1, by omega, by omega, HNB, HNK, HNA, HNO, HNT, HNQ⟩, rfl⟩
            case measure => rw [HM.out, numIn_box HNA.out]; omega
          | true =>
            obtain rfl : i = xa := by
              rcases Nat.lt_or_ge i xa with h | h
              · exact absurd (HBQ.out.1 rfl) (HNI.out h)
              · omega
            have hn6 := HN6.out rfl
            have hyn : yn = xn := HNX.out rfl
            subst hn6 hyn
            clear HBQ HNI HNX HM HN6
            simp only [Bool.not_true]
            have hown : wd.ownsRow w7.heap.size 5 1 (.slice sa sl sc) sl (bvs sd) := hatd
            have hsb : Bs wd.drew sa sl sc sd := by
              obtain ⟨a', k', e', hb'⟩ := own_bs hown (by have h7 := hqb.hlen; have h8 := hown.1; rw [bvs_length] at h8; have h9 := HYL.out; omega)
              simp only [Value.slice.injEq, true_and] at e'
              obtain ⟨rfl, rfl⟩ := e'
              exact hb'.mono ((Below.refl _ wd).drew)
            have HSM := Lib.hid (same_any sa ya sl sc yl yc sd sd wd.drew hsb (hqb.mono ((Below.refl _ wd).drew)))
            rw [show (sd == sd) = true by simp] at HSM
            have cx0 : wd.cell? ⟨Bx, 0, none⟩ = some (.string (str yn)) := by rw [cell_of_row _ _ 0 _ _ (0, 0) hod]; rfl
            have cx1 : wd.cell? ⟨Bx, 1, none⟩ = some (.slice sa sl sc) := by rw [cell_of_row _ _ 1 _ _ (0, 0) hod]; rfl
            have hSS : wd.drew.cell? ⟨kb + 1, 0, none⟩ = some (.int .i64 (i : Nat)) ∧ wd.drew.cell? ⟨w.heap.size, 0, none⟩ = some (.slice (some ⟨lb, lo, none⟩) len cap) ∧ wd.drew.cell? ⟨w.heap.size + 1, 0, none⟩ = some (.string (str yn)) ∧ wd.drew.cell? ⟨Bx, 0, none⟩ = some (.string (str yn)) ∧ wd.drew.cell? ⟨Bx, 1, none⟩ = some (.slice sa sl sc) ∧ wd.drew.cell? ⟨lb, lo + i * 2 + 1, none⟩ = some (.slice ya yl yc) :=
              ⟨had.cell, hxd.b0.cell, hxd.b1.cell, cx0, cx1, hqd⟩
            have HSS := Lib.hid hSS
            have HOW := Lib.hid hown
            have HHK := Lib.hid hkd
            have HHA := Lib.hid had
            have HHO := Lib.hid hod
            have HHX := Lib.hid hxd
            have HHQ := Lib.hid hqd
            have HHB := Lib.hid hqb
            have HHC := Lib.hid hkkd
            have dge : decide (len ≤ i) = false := by simp; omega
            have dne : ((str yn).toList == (str yn).toList) = true := by simp
            have dii : ((i : Int) == (i : Int)) = true := by simp
            clear hSS hown hsb cx0 cx1 hkd had hod hxd hqd hqb hatd hkkd
            gi_wp2_with fail
            refine Go.wpIn_mono (region_round (Q := EndsA (fun a' w' => (∃ z46 z47 z48 z49 z50 z51 z52 z53 z54 z55 z56 z57 z58 z59 z60 z61 z62 z63 z64 z65 z66 z67 z68 z69 z70 : Value, a' = { tmps := #[.slice (some ⟨lb, lo, none⟩) len cap, .string (str yn), .int .i64 m, .slice ba bl bc, .pointer (some ⟨w.heap.size, 0, none⟩), .pointer (some ⟨w.heap.size + 1, 0, none⟩), .pointer (some ⟨w.heap.size + 1 + 1, 0, none⟩), undef, .pointer (some ⟨w.heap.size + 1 + 1 + 1, 0, none⟩), .pointer (some ⟨kb, 0, none⟩), .pointer (some ⟨kb + 1, 0, none⟩), .int .i64 (i : Nat), .pointer (some ⟨Bx, 0, none⟩), undef, undef, undef, undef, .bool true, .bool false, .slice (some ⟨lb, lo, none⟩) len cap, .bool false, .int .i64 m, .int .u64 (IntKind.u64.wrap m), .int .u64 ((IntKind.u64.wrap m).tmod 9), .int .i64 (wrap64 ((IntKind.u64.wrap m).tmod 9)), .int .i64 (wrap64 (1 + wrap64 ((IntKind.u64.wrap m).tmod 9))), .slice (some ⟨lb, lo, none⟩) len cap, .string (str yn), .func (.func 49) #[] #[.pointer (some ⟨X, 0, none⟩)], .int .i64 (i : Nat), .agg #[.string (str yn), .slice sa sl sc], z31, z32, z33, z34, z35, z36, z37, z38, z39, z40, z41, z42, .bool false, u44, u45, z46, z47, z48, z49, z50, z51, z52, z53, z54, z55, z56, z57, z58, z59, z60, z61, z62, z63, z64, z65, z66, z67, z68, z69, z70, .bool false, undef, undef, undef, undef, undef, undef, undef, undef, undef, undef, undef, undef, undef, undef, undef, undef, undef, undef, undef, undef, undef, undef, undef, undef, undef, undef, undef, undef, undef, undef, undef, undef, undef, undef, undef, undef, undef, undef, undef, undef, undef, undef, undef, undef, undef, undef, undef, undef, undef, undef, undef, undef, undef, undef, undef, undef, undef, undef, undef, undef, undef, undef, undef, undef], defers := [] }) ∧ w' = wd.drew))
              (fun w' : World => w'.cell? ⟨kb + 1, 0, none⟩ = some (.int .i64 (i : Nat)) ∧ w'.cell? ⟨w.heap.size, 0, none⟩ = some (.slice (some ⟨lb, lo, none⟩) len cap) ∧ w'.cell? ⟨w.heap.size + 1, 0, none⟩ = some (.string (str yn)) ∧ w'.cell? ⟨Bx, 0, none⟩ = some (.string (str yn)) ∧ w'.cell? ⟨Bx, 1, none⟩ = some (.slice sa sl sc) ∧ w'.cell? ⟨lb, lo + i * 2 + 1, none⟩ = some (.slice ya yl yc)) hmix (by kernel_rfl) (endsA_no _) ?_) ?_
            case refine_1 =>
              skip
              refine H_take (i := 0) (v := ?_) rfl (by kernel_rfl) (by kernel_rfl) (by kernel_rfl) (fun _ _ _ h => h.elim) HSS.out (by rfl) ?_ ?_
              rotate_left
              · (intro w' hw'; obtain ⟨j0, j1, j2, j3, j4, j5⟩ := hw'; first | (go_simp; done) | (go_simp; with_reducible rfl))
              try simp only [List.getElem_toArray, List.getElem_cons_zero, List.getElem_cons_succ, Act.put, List.setIfInBounds_toArray, List.set_cons_zero, List.set_cons_succ]
              refine H_take (i := 1) (v := ?_) rfl (by kernel_rfl) (by kernel_rfl) (by kernel_rfl) (fun _ _ _ h => h.elim) HSS.out (by rfl) ?_ ?_
              rotate_left
              · (intro w' hw'; obtain ⟨j0, j1, j2, j3, j4, j5⟩ := hw'; first | (go_simp; done) | (go_simp; with_reducible rfl))
              try simp only [List.getElem_toArray, List.getElem_cons_zero, List.getElem_cons_succ, Act.put, List.setIfInBounds_toArray, List.set_cons_zero, List.set_cons_succ]
              refine H_take (i := 2) (v := ?_) rfl (by kernel_rfl) (by kernel_rfl) (by kernel_rfl) (fun _ _ _ h => h.elim) HSS.out (by rfl) ?_ ?_
              rotate_left
              · (intro w' hw'; obtain ⟨j0, j1, j2, j3, j4, j5⟩ := hw'; first | (go_simp; done) | (go_simp; with_reducible rfl))
              try simp only [List.getElem_toArray, List.getElem_cons_zero, List.getElem_cons_succ, Act.put, List.setIfInBounds_toArray, List.set_cons_zero, List.set_cons_succ]
              refine H_take (i := 3) (v := ?_) rfl (by kernel_rfl) (by kernel_rfl) (by kernel_rfl) (fun _ _ _ h => h.elim) HSS.out (by rfl) ?_ ?_
              rotate_left
              · (intro w' hw'; obtain ⟨j0, j1, j2, j3, j4, j5⟩ := hw'; first | (go_simp; done) | (go_simp; with_reducible rfl))
              try simp only [List.getElem_toArray, List.getElem_cons_zero, List.getElem_cons_succ, Act.put, List.setIfInBounds_toArray, List.set_cons_zero, List.set_cons_succ]
              refine H_take (i := 4) (v := ?_) rfl (by kernel_rfl) (by kernel_rfl) (by kernel_rfl) (fun _ _ _ h => h.elim) HSS.out (by rfl) ?_ ?_
              rotate_left
              · (intro w' hw'; obtain ⟨j0, j1, j2, j3, j4, j5⟩ := hw'; first | (go_simp; done) | (go_simp; with_reducible rfl))
              try simp only [List.getElem_toArray, List.getElem_cons_zero, List.getElem_cons_succ, Act.put, List.setIfInBounds_toArray, List.set_cons_zero, List.set_cons_succ]
              refine H_take (i := 5) (v := ?_) rfl (by kernel_rfl) (by kernel_rfl) (by kernel_rfl) (fun _ _ _ h => h.elim) HSS.out (by rfl) ?_ ?_
              rotate_left
              · (intro w' hw'; obtain ⟨j0, j1, j2, j3, j4, j5⟩ := hw'; first | (go_simp; done) | (go_simp; with_reducible rfl))
              try simp only [List.getElem_toArray, List.getElem_cons_zero, List.getElem_cons_succ, Act.put, List.setIfInBounds_toArray, List.set_cons_zero, List.set_cons_succ]
              refine H_take (i := 6) (v := ?_) rfl (by kernel_rfl) (by kernel_rfl) (by kernel_rfl) (fun _ _ _ h => h.elim) HSS.out (by rfl) ?_ ?_
              rotate_left
              · (intro w' hw'; obtain ⟨j0, j1, j2, j3, j4, j5⟩ := hw'; first | (go_simp; done) | (go_simp; with_reducible rfl))
              try simp only [List.getElem_toArray, List.getElem_cons_zero, List.getElem_cons_succ, Act.put, List.setIfInBounds_toArray, List.set_cons_zero, List.set_cons_succ]
              refine H_take (i := 7) (v := ?_) rfl (by kernel_rfl) (by kernel_rfl) (by kernel_rfl) (fun _ _ _ h => h.elim) HSS.out (by rfl) ?_ ?_
              rotate_left
              · (intro w' hw'; obtain ⟨j0, j1, j2, j3, j4, j5⟩ := hw'; first | (go_simp; done) | (go_simp; with_reducible rfl))
              try simp only [List.getElem_toArray, List.getElem_cons_zero, List.getElem_cons_succ, Act.put, List.setIfInBounds_toArray, List.set_cons_zero, List.set_cons_succ]
              refine H_take (i := 8) (v := ?_) rfl (by kernel_rfl) (by kernel_rfl) (by kernel_rfl) (fun _ _ _ h => h.elim) HSS.out (by rfl) ?_ ?_
              rotate_left
              · (intro w' hw'; obtain ⟨j0, j1, j2, j3, j4, j5⟩ := hw'; first | (go_simp; done) | (go_simp; with_reducible rfl))
              try simp only [List.getElem_toArray, List.getElem_cons_zero, List.getElem_cons_succ, Act.put, List.setIfInBounds_toArray, List.set_cons_zero, List.set_cons_succ]
              refine H_take (i := 9) (v := ?_) rfl (by kernel_rfl) (by kernel_rfl) (by kernel_rfl) (fun _ _ _ h => h.elim) HSS.out (by rfl) ?_ ?_
              rotate_left
              · (intro w' hw'; obtain ⟨j0, j1, j2, j3, j4, j5⟩ := hw'; first | (go_simp; done) | (go_simp; with_reducible rfl))
              try simp only [List.getElem_toArray, List.getElem_cons_zero, List.getElem_cons_succ, Act.put, List.setIfInBounds_toArray, List.set_cons_zero, List.set_cons_succ]
              refine H_take (i := 10) (v := ?_) rfl (by kernel_rfl) (by kernel_rfl) (by kernel_rfl) (fun _ _ _ h => h.elim) HSS.out (by rfl) ?_ ?_
              rotate_left
              · (intro w' hw'; obtain ⟨j0, j1, j2, j3, j4, j5⟩ := hw'; first | (go_simp; done) | (go_simp; with_reducible rfl))
              try simp only [List.getElem_toArray, List.getElem_cons_zero, List.getElem_cons_succ, Act.put, List.setIfInBounds_toArray, List.set_cons_zero, List.set_cons_succ]
              refine H_take (i := 11) (v := ?_) rfl (by kernel_rfl) (by kernel_rfl) (by kernel_rfl) (fun _ _ _ h => h.elim) HSS.out (by rfl) ?_ ?_
              rotate_left
              · (intro w' hw'; obtain ⟨j0, j1, j2, j3, j4, j5⟩ := hw'; first | (go_simp; done) | (go_simp; with_reducible rfl))
              try simp only [List.getElem_toArray, List.getElem_cons_zero, List.getElem_cons_succ, Act.put, List.setIfInBounds_toArray, List.set_cons_zero, List.set_cons_succ]
              refine H_take (i := 12) (v := ?_) rfl (by kernel_rfl) (by kernel_rfl) (by kernel_rfl) (fun _ _ _ h => h.elim) HSS.out (by rfl) ?_ ?_
              rotate_left
              · (intro w' hw'; obtain ⟨j0, j1, j2, j3, j4, j5⟩ := hw'; first | (go_simp; done) | (go_simp; with_reducible rfl))
              try simp only [List.getElem_toArray, List.getElem_cons_zero, List.getElem_cons_succ, Act.put, List.setIfInBounds_toArray, List.set_cons_zero, List.set_cons_succ]
              refine H_take (i := 13) (v := ?_) rfl (by kernel_rfl) (by kernel_rfl) (by kernel_rfl) (fun _ _ _ h => h.elim) HSS.out (by rfl) ?_ ?_
              rotate_left
              · (intro w' hw'; obtain ⟨j0, j1, j2, j3, j4, j5⟩ := hw'; first | (go_simp; done) | (go_simp; with_reducible rfl))
              try simp only [List.getElem_toArray, List.getElem_cons_zero, List.getElem_cons_succ, Act.put, List.setIfInBounds_toArray, List.set_cons_zero, List.set_cons_succ]
              refine H_take (i := 14) (v := ?_) rfl (by kernel_rfl) (by kernel_rfl) (by kernel_rfl) (fun _ _ _ h => h.elim) HSS.out (by rfl) ?_ ?_
              rotate_left
              · (intro w' hw'; obtain ⟨j0, j1, j2, j3, j4, j5⟩ := hw'; first | (go_simp; done) | (go_simp; with_reducible rfl))
              try simp only [List.getElem_toArray, List.getElem_cons_zero, List.getElem_cons_succ, Act.put, List.setIfInBounds_toArray, List.set_cons_zero, List.set_cons_succ]
              refine H_take (i := 15) (v := ?_) rfl (by kernel_rfl) (by kernel_rfl) (by kernel_rfl) (fun _ _ _ h => h.elim) HSS.out (by rfl) ?_ ?_
              rotate_left
              · (intro w' hw'; obtain ⟨j0, j1, j2, j3, j4, j5⟩ := hw'; first | (go_simp; done) | (go_simp; with_reducible rfl))
              try simp only [List.getElem_toArray, List.getElem_cons_zero, List.getElem_cons_succ, Act.put, List.setIfInBounds_toArray, List.set_cons_zero, List.set_cons_succ]
              refine H_take (i := 16) (v := ?_) rfl (by kernel_rfl) (by kernel_rfl) (by kernel_rfl) (fun _ _ _ h => h.elim) HSS.out (by rfl) ?_ ?_
              rotate_left
              · (intro w' hw'; obtain ⟨j0, j1, j2, j3, j4, j5⟩ := hw'; first | (go_simp; done) | (go_simp; with_reducible rfl))
              try simp only [List.getElem_toArray, List.getElem_cons_zero, List.getElem_cons_succ, Act.put, List.setIfInBounds_toArray, List.set_cons_zero, List.set_cons_succ]
              refine H_take (i := 17) (v := ?_) rfl (by kernel_rfl) (by kernel_rfl) (by kernel_rfl) (fun _ _ _ h => h.elim) HSS.out (by rfl) ?_ ?_
              rotate_left
              · (intro w' hw'; obtain ⟨j0, j1, j2, j3, j4, j5⟩ := hw'; first | (go_simp; done) | (go_simp; with_reducible rfl))
              try simp only [List.getElem_toArray, List.getElem_cons_zero, List.getElem_cons_succ, Act.put, List.setIfInBounds_toArray, List.set_cons_zero, List.set_cons_succ]
              refine H_take (i := 18) (v := ?_) rfl (by kernel_rfl) (by kernel_rfl) (by kernel_rfl) (fun _ _ _ h => h.elim) HSS.out (by rfl) ?_ ?_
              rotate_left
              · (intro w' hw'; obtain ⟨j0, j1, j2, j3, j4, j5⟩ := hw'; first | (go_simp; done) | (go_simp; with_reducible rfl))
              try simp only [List.getElem_toArray, List.getElem_cons_zero, List.getElem_cons_succ, Act.put, List.setIfInBounds_toArray, List.set_cons_zero, List.set_cons_succ]
              refine H_take (i := 19) (v := ?_) rfl (by kernel_rfl) (by kernel_rfl) (by kernel_rfl) (fun _ _ _ h => h.elim) HSS.out (by rfl) ?_ ?_
              rotate_left
              · (intro w' hw'; obtain ⟨j0, j1, j2, j3, j4, j5⟩ := hw'; first | (go_simp; done) | (go_simp; with_reducible rfl))
              try simp only [List.getElem_toArray, List.getElem_cons_zero, List.getElem_cons_succ, Act.put, List.setIfInBounds_toArray, List.set_cons_zero, List.set_cons_succ]
              refine H_take (i := 20) (v := ?_) rfl (by kernel_rfl) (by kernel_rfl) (by kernel_rfl) (fun _ _ _ h => h.elim) HSS.out (by rfl) ?_ ?_
              rotate_left
              · (intro w' hw'; obtain ⟨j0, j1, j2, j3, j4, j5⟩ := hw'; first | (go_simp; done) | (go_simp; with_reducible rfl))
              try simp only [List.getElem_toArray, List.getElem_cons_zero, List.getElem_cons_succ, Act.put, List.setIfInBounds_toArray, List.set_cons_zero, List.set_cons_succ]
              refine H_take (i := 21) (v := ?_) rfl (by kernel_rfl) (by kernel_rfl) (by kernel_rfl) (fun _ _ _ h => h.elim) HSS.out (by rfl) ?_ ?_
              rotate_left
              · (intro w' hw'; obtain ⟨j0, j1, j2, j3, j4, j5⟩ := hw'; first | (go_simp; done) | (go_simp; with_reducible rfl))
              try simp only [List.getElem_toArray, List.getElem_cons_zero, List.getElem_cons_succ, Act.put, List.setIfInBounds_toArray, List.set_cons_zero, List.set_cons_succ]
              refine H_take (i := 22) (v := ?_) rfl (by kernel_rfl) (by kernel_rfl) (by kernel_rfl) (fun _ _ _ h => h.elim) HSS.out (by rfl) ?_ ?_
              rotate_left
              · (intro w' hw'; obtain ⟨j0, j1, j2, j3, j4, j5⟩ := hw'; first | (go_simp; done) | (go_simp; with_reducible rfl))
              try simp only [List.getElem_toArray, List.getElem_cons_zero, List.getElem_cons_succ, Act.put, List.setIfInBounds_toArray, List.set_cons_zero, List.set_cons_succ]
              refine H_step (i := 23) (by kernel_rfl) rfl (fun K hK => ?_)
              go_simp
              go_at_call 23
              refine HSM.out.mono ?_
              rintro e wz ⟨rfl, rfl⟩
              go_simp
              refine hK.out _ _ HSS.out ?_
              clear hK K
              try simp only [List.getElem_toArray, List.getElem_cons_zero, List.getElem_cons_succ, Act.put, List.setIfInBounds_toArray, List.set_cons_zero, List.set_cons_succ]
              refine H_take (i := 24) (v := ?_) rfl (by kernel_rfl) (by kernel_rfl) (by kernel_rfl) (fun _ _ _ h => h.elim) HSS.out (by rfl) ?_ ?_
              rotate_left
              · (intro w' hw'; obtain ⟨j0, j1, j2, j3, j4, j5⟩ := hw'; first | (go_simp; done) | (go_simp; with_reducible rfl))
              try simp only [List.getElem_toArray, List.getElem_cons_zero, List.getElem_cons_succ, Act.put, List.setIfInBounds_toArray, List.set_cons_zero, List.set_cons_succ]
              refine H_take (i := 25) (v := ?_) rfl (by kernel_rfl) (by kernel_rfl) (by kernel_rfl) (fun _ _ _ h => h.elim) HSS.out (by rfl) ?_ ?_
              rotate_left
              · (intro w' hw'; obtain ⟨j0, j1, j2, j3, j4, j5⟩ := hw'; first | (go_simp; done) | (go_simp; with_reducible rfl))
              try simp only [List.getElem_toArray, List.getElem_cons_zero, List.getElem_cons_succ, Act.put, List.setIfInBounds_toArray, List.set_cons_zero, List.set_cons_succ]
              refine wpAnyH_done (by kernel_rfl) ?_ _
              exact ⟨⟨_, _, _, _, _, _, _, _, _, _, _, _, _, _, _, _, _, _, _, _, _, _, _, _, _, rfl⟩, rfl⟩
            case refine_2 =>
              intro e a' w' he
              cases e with
              | normal =>
                obtain ⟨⟨z46, z47, z48, z49, z50, z51, z52, z53, z54, z55, z56, z57, z58, z59, z60, z61, z62, z63, z64, z65, z66, z67, z68, z69, z70, rfl⟩, rfl⟩ := he
                clear HSS HSM dge dne dii
                have hown : wd.drew.ownsRow w7.heap.size 5 1 (.slice sa sl sc) sl (bvs sd) := HOW.out
                have hkd : Boxed wd.drew kb 3 (.int .i64 ((pre.length : Nat) : Int)) := HHK.out
                have had : Boxed wd.drew (kb + 1) 3 (.int .i64 ((i : Nat) : Int)) := HHA.out
                have cx1 : wd.drew.cell? ⟨Bx, 1, none⟩ = some (.slice sa sl sc) := by
                  have hod : wd.drew.heap[Bx]? = some (.cells #[.string (str yn), .slice sa sl sc] 52) := HHO.out
                  rw [cell_of_row _ _ 1 _ _ (0, 0) hod]; rfl
                have hxd : Bx4 w wd.drew (.slice (some ⟨lb, lo, none⟩) len cap) (.string (str yn)) (N : Nat) := ⟨HHX.out.b0, HHX.out.b1, HHX.out.b2, HHX.out.b3⟩
                have hqd : wd.drew.cell? ⟨lb, lo + i * 2 + 1, none⟩ = some (.slice ya yl yc) := HHQ.out
                have hqb : Bs wd.drew ya yl yc sd := HHB.out.mono ((Below.refl _ wd).drew)
                have hbd : Below kb w7 wd.drew := HBD.out.trans ((Below.refl kb wd).drew)
                have hkkd : KeepsFrom w7.heap.size A wd.drew ∧ Bk.Kc (fun k => k = kb ∨ k = kb + 1 ∨ w7.heap.size ≤ k) A wd.drew := ⟨⟨HHC.out.1.size, HHC.out.1.same⟩, HHC.out.2⟩
                clear HOW HHK HHA HHO HHX HHQ HHB HHC HBD
                revert hown hkd had cx1 hxd hqd hqb hbd hkkd
                generalize wd.drew = we
                intro hown hkd had cx1 hxd hqd hqb hbd hkkd
                have HPL : Hid ((pre ++ [((i, ⟨yn, ⟨sa, sl, sc, sd⟩⟩) : Plm)]).length = pre.length + 1) := Lib.hid (by simp)
                have HAV : Hid (atv (pre ++ [((i, ⟨yn, ⟨sa, sl, sc, sd⟩⟩) : Plm)]) = i + 1) := Lib.hid (atv_snoc _ _)
                have HSY : Hid (sl = yl) := Lib.hid (by have h7 := hqb.hlen; have h8 := hown.1; rw [bvs_length] at h8; omega)
                generalize hjj : pre.length = j at *
                have c4 := hxd.b0.cell
                have c6 := hxd.b2.cell
                have ck := hkd.cell
                have fk := hkd.frozen
                have ca := had.cell
                have fa := had.frozen
                by_cases hs0 : sl = 0
                · have d14 : decide (0 < sl) = false := by simp; omega
                  have HT := Lib.hid (tail_any (Z := w7.heap.size) (by omega) hbd hkd had hkkd)
                  clear hown hkd had hxd hqd hqb hbd hkkd hjj hs0
                  by_cases hjN : j + 1 = N
                  · have d7 : ((j : Int) + 1 == (N : Int)) = true := by simp; omega
                    have HJN := Lib.hid hjN
                    clear hjN
                    gi_wp2
                    exact ⟨HT.out.1, rfl, by rw [HPL.out]; exact HJN.out, HT.out.2.2.1, by rw [← HJN.out]; exact HT.out.2.2.2.1⟩
                  · have d7 : ((j : Int) + 1 == (N : Int)) = false := by simp; omega
                    gi_wp2
                    exact ⟨HT.out.1, HT.out.2.1, HT.out.2.2.1, by rw [HPL.out]; exact HT.out.2.2.2.1, by rw [HAV.out]; exact HT.out.2.2.2.2, by rw [HPL.out]; omega⟩
                · have d14 : decide (0 < sl) = true := by simp; omega
                  obtain ⟨gx, rfl⟩ : ∃ gx, sa = some ⟨gx, 0, none⟩ := by
                    rcases own_nil_or hown with ⟨h, h0⟩ | ⟨g, c, h, _⟩
                    · exact absurd h0 hs0
                    · simp only [Value.slice.injEq] at h; exact ⟨g, h.1⟩
                  have hgx := (hown.lt gx rfl).1
                  have hsb : Bs we (some ⟨gx, 0, none⟩) sl sc sd := by
                    obtain ⟨a', k', e', hb'⟩ := own_bs hown (by have h1 := HSY.out; have h2 := HYL.out; omega)
                    simp only [Value.slice.injEq, true_and] at e'
                    obtain ⟨rfl, rfl⟩ := e'
                    exact hb'
                  obtain ⟨b1, o1, e1, _, cg⟩ := hsb.at' 0 (by omega)
                  simp only [Option.some.injEq, Addr.mk.injEq, and_true] at e1
                  obtain ⟨rfl, rfl⟩ := e1
                  obtain ⟨yb, yo, rfl, hyb⟩ := HY0.out (by have := HSY.out; omega)
                  obtain ⟨b2, o2, e2, _, cy⟩ := hqb.at' 0 (by have := HSY.out; omega)
                  simp only [Option.some.injEq, Addr.mk.injEq, and_true] at e2
                  obtain ⟨rfl, rfl⟩ := e2
                  have fg := hown.frozenAt 0
                  have hil0 : 0 < sl := by omega
                  have hyl0 : 0 < yl := by have := HSY.out; omega
                  have HGX : Hid (w7.heap.size ≤ gx) := Lib.hid hgx
                  rw [Nat.add_zero] at cg cy
                  generalize Go.Proofs.Ytfhmmlpcdgcmoaa.gb sd 0 = q at *
                  have dqq : (q == q) = true := by simp
                  have HT := Lib.hid (tail_any (i := i) (j := j) (Z := w7.heap.size) (wf := we.setCell ⟨gx, 0, none⟩ (.int .u8 (bits .xor .u8 (q : Int) 1))) (by omega) (hbd.setCell (p := ⟨gx, 0, none⟩) (by show kb ≤ gx; omega) _) (hkd.other (by omega) _) (had.other (by omega) _)
                    ⟨hkkd.1.trans ((KeepsOthers.setCell we _ _).from _), hkkd.2.trans (Bk.Kc.set (U := fun k => k = kb ∨ k = kb + 1 ∨ w7.heap.size ≤ k) we ⟨gx, 0, none⟩ (.inr (.inr hgx)) _)⟩)
                  clear hown hsb hs0 hqb hkd had hxd hbd hkkd hjj
                  by_cases hjN : j + 1 = N
                  · have d7 : ((j : Int) + 1 == (N : Int)) = true := by simp; omega
                    have HJN := Lib.hid hjN
                    clear hjN
                    gi_wp2
                    exact ⟨HT.out.1, rfl, by rw [HPL.out]; exact HJN.out, HT.out.2.2.1, by rw [← HJN.out]; exact HT.out.2.2.2.1⟩
                  · have d7 : ((j : Int) + 1 == (N : Int)) = false := by simp; omega
                    gi_wp2
                    exact ⟨HT.out.1, HT.out.2.1, HT.out.2.2.1, by rw [HPL.out]; exact HT.out.2.2.2.1, by rw [HAV.out]; exact HT.out.2.2.2.2, by rw [HPL.out]; omega⟩
              | _ => exact he.elim
        | _ => exact he.elim
  case hend =>
    rintro xs A hxs ⟨h1, h2, _, h4⟩ hK
    obtain ⟨Kn, hKn⟩ : ∃ Kn, xs.length = Kn := ⟨_, rfl⟩
    rw [hKn] at h2 h4
    have HMIN : Hid ((if (hits l nm l.length).length < N then ((hits l nm l.length).length : Int) else (N : Int)) = (Kn : Int)) := Lib.hid (by
      have e1 := sh_len hxs
      have e2 := plis_len HPI.out
      rw [if_pos (by omega)]; omega)
    clear hxs h4 hKn
    have hz := HZ.out
    have hxA := HX7.out.below h1 hz.1
    have hbA := HB7.out.trans (h1.mono (by omega))
    have HXA := Lib.hid hxA
    have HBA := Lib.hid hbA
    have HKB := Lib.hid h2
    have HKD := Lib.hid hK
    have cA0 := hxA.b0.cell
    clear h1 h2 hK hxA hbA hit hk7' HX7
    gi_wp2
    gi_loopw [14, 104] (fun x i wr => ∃ k : Nat, k ≤ len ∧ i = .int .i64 k ∧ x = .int .i64 ((hits l nm k).length : Nat) ∧ Hid (Below A.heap.size A wr)) (fun _ i _ => len - (intOf i).toNat)
    case atStart => exact ⟨0, by omega, rfl, rfl, Lib.hid (Below.refl _ _)⟩
    case round =>
      obtain ⟨k, hk, rfl, rfl, HBW⟩ := hrel
      have hxw := HXA.out.below HBW.out (by have := HXA.out.b3.lt; omega)
      have cw1 := hxw.b1.cell
      by_cases hlt : k < len
      · obtain ⟨lb, lo, rfl, hlb, q0, q1, _⟩ := (H.out.mono (HBA.out.trans (HBW.out.mono HBA.out.size))).at' k hlt
        have hhy := fun h => hits_yes (l := l) (nm := nm) (k := k) h
        have hhn := fun h => hits_no (l := l) (nm := nm) (k := k) h
        have HHY := Lib.hid hhy
        have HHN := Lib.hid hhn
        have HLE := Lib.hid (hits_le l nm k)
        generalize nck l k = y at *
        obtain ⟨yn, ya, yl, yc, yd⟩ := y
        unfold Sl.val at q1
        simp only at q0 q1 HHY HHN
        have HB2 := Lib.hid (HBW.out.alloc HBW.out.size (.cells #[.string (str yn), .slice ya yl yc] 52))
        have cw2 := (hxw.below (below_alloc wr (.cells #[.string (str yn), .slice ya yl yc] 52)) (by have := hxw.b3.lt; omega)).b1.cell
        clear hhy hhn hxw
        have hle9 := HLE.out
        by_cases hn : yn = nm
        · have hie : ((str yn).toList == (str nm).toList) = true := by rw [hn]; simp
          have HLN : Hid ((hits l nm (k + 1)).length = (hits l nm k).length + 1) := Lib.hid (by rw [HHY.out hn]; simp)
          generalize (hits l nm k).length = c at *
          clear hn
          gi_wp2
          go_roundw
          case rel => exact ⟨k + 1, by omega, by go_num, by rw [HLN.out]; go_num, HB2⟩
          case measure => simp [intOf]; omega
        · have hie : ((str yn).toList == (str nm).toList) = false := by rw [str_list, str_list]; exact beq_false_of_ne hn
          have HLN : Hid ((hits l nm (k + 1)).length = (hits l nm k).length) := Lib.hid (by rw [HHN.out hn])
          generalize (hits l nm k).length = c at *
          clear hn
          gi_wp2
          go_roundw
          case rel => exact ⟨k + 1, by omega, by go_num, by rw [HLN.out], HB2⟩
          case measure => simp [intOf]; omega
      · obtain rfl : len = k := by omega
        have HMN : Hid ((if (hits l nm len).length < N then ((hits l nm len).length : Int) else (N : Int)) = (Kn : Int)) := Lib.hid (by rw [← H.out.hlen]; exact HMIN.out)
        have hmn : (if (hits l nm len).length < N then ((hits l nm len).length : Int) else (N : Int)) = (Kn : Int) := HMN.out
        have dkk : ((Kn : Int) == (Kn : Int)) = true := by simp
        clear hlt HMN HMIN
        generalize (hits l nm len).length = c at *
        have hAz := HBA.out.size
        have hlA := HXA.out.b3.lt
        have hkb9 := HKB.out.lt
        have hS0 : ∀ w', Below A.heap.size A w' → w'.cell? ⟨kb, 0, none⟩ = some (.int .i64 (Kn : Nat)) ∧ w'.cell? ⟨w.heap.size + 1 + 1, 0, none⟩ = some (.int .i64 (N : Nat)) := fun w' hb =>
          ⟨Boxed.cell ((hb.block _ hkb9).trans HKB.out), (HXA.out.below hb (by omega)).b2.cell⟩
        have HS0 := Lib.hid hS0
        have hbW := HBW.out
        have hbD : Below A.heap.size A wr.drew := hbW.trans ((Below.refl _ wr).drew.mono hbW.size)
        have HBD := Lib.hid hbD
        have HSG := Lib.hid (signed_any ba bl bc bs wr.drew (HB.out.mono (HBA.out.trans (hbD.mono hAz))))
        have hbl := HB.out.hlen
        clear hS0 hbW hbD
        by_cases h8 : 8 ≤ bl
        · obtain ⟨b8, o8, rfl, _, _⟩ := HB.out.at' 0 (by omega)
          have d8 : decide ((8 : Int) ≤ (bl : Int)) = true := by simp; omega
          have i8 : (8 : Int) ≤ (bc : Int) := by have := HB.out.hle; omega
          have hc2 := HB.out.hcap
          have hmx := HB.out.hmax
          have HK8 : Hid (∀ w', Below w.heap.size w w' → (convert 23 9 (.slice (some ⟨b8, o8, none⟩) 8 bc)).run Try.prog w' = .ok (.string (str (bs.take 8))) w') := Lib.hid (fun w' hb => conv_bs (P := Try.prog) ((HB.out.mono hb).take' 8 (by omega)) 23 9 5 Try.underlying23 Try.underlying5 Try.underlying9)
          gi_wp2_with fail
          refine Go.wpIn_mono (region_wd (Q := EndsA (fun a' w' => (∃ z115 z116 z117 z118 z119 z120 z121 z122 z123 z124 z125 z126 z127 z128 z129 z130 z131 z132 z133 z134 z135 : Value, a' = { tmps := #[.slice a len cap, .string (str nm), .int .i64 m, .slice (some ⟨b8, o8, none⟩) bl bc, .pointer (some ⟨w.heap.size, 0, none⟩), .pointer (some ⟨w.heap.size + 1, 0, none⟩), .pointer (some ⟨w.heap.size + 1 + 1, 0, none⟩), undef, .pointer (some ⟨w.heap.size + 1 + 1 + 1, 0, none⟩), .pointer (some ⟨kb, 0, none⟩), .pointer (some ⟨kb + 1, 0, none⟩), undef, undef, undef, .int .i64 (c : Nat), undef, u16, .bool true, .bool false, .slice a len cap, .bool false, .int .i64 m, .int .u64 (IntKind.u64.wrap m), .int .u64 ((IntKind.u64.wrap m).tmod 9), .int .i64 (wrap64 ((IntKind.u64.wrap m).tmod 9)), .int .i64 (wrap64 (1 + wrap64 ((IntKind.u64.wrap m).tmod 9))), .slice a len cap, .string (str nm), .func (.func 49) #[] #[.pointer (some ⟨X, 0, none⟩)], undef, undef, undef, undef, undef, undef, undef, undef, undef, undef, undef, undef, undef, undef, undef, undef, undef, undef, undef, undef, undef, undef, undef, undef, undef, undef, undef, undef, undef, undef, undef, undef, undef, undef, undef, undef, undef, undef, undef, undef, undef, undef, undef, undef, undef, undef, undef, undef, undef, undef, undef, undef, undef, undef, undef, undef, undef, undef, undef, undef, undef, undef, undef, undef, undef, undef, undef, undef, undef, undef, undef, undef, undef, .slice a len cap, .int .i64 (len : Nat), .int .i64 (len : Nat), .bool false, u106, u107, u108, u109, u110, u111, u112, u113, u114, z115, z116, z117, z118, z119, z120, z121, z122, z123, z124, z125, z126, z127, z128, z129, z130, z131, z132, z133, z134, z135], defers := [{ target := .collected w7.heap.size, args := #[] }] }) ∧ ∃ w2, Below A.heap.size A w2 ∧ w' = w2.setCell ⟨w.heap.size + 1 + 1 + 1, 0, none⟩ (.bool true)))
            (fun w' : World => w'.cell? ⟨kb, 0, none⟩ = some (.int .i64 (Kn : Nat)) ∧ w'.cell? ⟨w.heap.size + 1 + 1, 0, none⟩ = some (.int .i64 (N : Nat)) ∧ (convert 23 9 (.slice (some ⟨b8, o8, none⟩) 8 bc)).run Try.prog w' = .ok (.string (str (bs.take 8))) w') hmix (endsA_no _) ?_) ?_
          case refine_1 =>
            have hSS := And.intro (HS0.out _ HBD.out).1 (And.intro (HS0.out _ HBD.out).2 (HK8.out _ (HBA.out.trans (HBD.out.mono hAz))))
            have HSS := Lib.hid hSS
            clear hSS
            refine H_take (i := 0) (v := ?_) rfl (by kernel_rfl) (by kernel_rfl) (by kernel_rfl) (fun _ _ _ h => h.elim) HSS.out (by rfl) ?_ ?_
            rotate_left
            · (intro w' hw'; obtain ⟨j0, j1, _⟩ := hw'; first | (go_simp; done) | (go_simp; with_reducible rfl))
            try simp only [List.getElem_toArray, List.getElem_cons_zero, List.getElem_cons_succ, Act.put, List.setIfInBounds_toArray, List.set_cons_zero, List.set_cons_succ]
            refine H_take (i := 1) (v := ?_) rfl (by kernel_rfl) (by kernel_rfl) (by kernel_rfl) (fun _ _ _ h => h.elim) HSS.out (by rfl) ?_ ?_
            rotate_left
            · (intro w' hw'; obtain ⟨j0, j1, _⟩ := hw'; first | (go_simp; done) | (go_simp; with_reducible rfl))
            try simp only [List.getElem_toArray, List.getElem_cons_zero, List.getElem_cons_succ, Act.put, List.setIfInBounds_toArray, List.set_cons_zero, List.set_cons_succ]
            refine H_take (i := 2) (v := ?_) rfl (by kernel_rfl) (by kernel_rfl) (by kernel_rfl) (fun _ _ _ h => h.elim) HSS.out (by rfl) ?_ ?_
            rotate_left
            · (intro w' hw'; obtain ⟨j0, j1, _⟩ := hw'; first | (go_simp; done) | (go_simp; with_reducible rfl))
            try simp only [List.getElem_toArray, List.getElem_cons_zero, List.getElem_cons_succ, Act.put, List.setIfInBounds_toArray, List.set_cons_zero, List.set_cons_succ]
            refine H_take (i := 3) (v := ?_) rfl (by kernel_rfl) (by kernel_rfl) (by kernel_rfl) (fun _ _ _ h => h.elim) HSS.out (by rfl) ?_ ?_
            rotate_left
            · (intro w' hw'; obtain ⟨j0, j1, _⟩ := hw'; first | (go_simp; done) | (go_simp; with_reducible rfl))
            try simp only [List.getElem_toArray, List.getElem_cons_zero, List.getElem_cons_succ, Act.put, List.setIfInBounds_toArray, List.set_cons_zero, List.set_cons_succ]
            refine H_take (i := 4) (v := ?_) rfl (by kernel_rfl) (by kernel_rfl) (by kernel_rfl) (fun _ _ _ h => h.elim) HSS.out (by rfl) ?_ ?_
            rotate_left
            · (intro w' hw'; obtain ⟨j0, j1, _⟩ := hw'; first | (go_simp; done) | (go_simp; with_reducible rfl))
            try simp only [List.getElem_toArray, List.getElem_cons_zero, List.getElem_cons_succ, Act.put, List.setIfInBounds_toArray, List.set_cons_zero, List.set_cons_succ]
            refine H_take (i := 5) (v := ?_) rfl (by kernel_rfl) (by kernel_rfl) (by kernel_rfl) (fun _ _ _ h => h.elim) HSS.out (by rfl) ?_ ?_
            rotate_left
            · (intro w' hw'; obtain ⟨j0, j1, _⟩ := hw'; first | (go_simp; done) | (go_simp; with_reducible rfl))
            try simp only [List.getElem_toArray, List.getElem_cons_zero, List.getElem_cons_succ, Act.put, List.setIfInBounds_toArray, List.set_cons_zero, List.set_cons_succ]
            refine H_take (i := 6) (v := ?_) rfl (by kernel_rfl) (by kernel_rfl) (by kernel_rfl) (fun _ _ _ h => h.elim) HSS.out (by rfl) ?_ ?_
            rotate_left
            · (intro w' hw'; obtain ⟨j0, j1, _⟩ := hw'; first | (go_simp; done) | (go_simp; with_reducible rfl))
            try simp only [List.getElem_toArray, List.getElem_cons_zero, List.getElem_cons_succ, Act.put, List.setIfInBounds_toArray, List.set_cons_zero, List.set_cons_succ]
            refine H_take (i := 8) (v := ?_) rfl (by kernel_rfl) (by kernel_rfl) (by kernel_rfl) (fun _ _ _ h => h.elim) HSS.out (by rfl) ?_ ?_
            rotate_left
            · (intro w' hw'; obtain ⟨j0, j1, _⟩ := hw'; first | (go_simp; done) | (go_simp; with_reducible rfl))
            try simp only [List.getElem_toArray, List.getElem_cons_zero, List.getElem_cons_succ, Act.put, List.setIfInBounds_toArray, List.set_cons_zero, List.set_cons_succ]
            refine H_take (i := 9) (v := ?_) rfl (by kernel_rfl) (by kernel_rfl) (by kernel_rfl) (fun _ _ _ h => h.elim) HSS.out (by rfl) ?_ ?_
            rotate_left
            · (intro w' hw'; obtain ⟨j0, j1, _⟩ := hw'; first | (go_simp; done) | (go_simp; with_reducible rfl))
            try simp only [List.getElem_toArray, List.getElem_cons_zero, List.getElem_cons_succ, Act.put, List.setIfInBounds_toArray, List.set_cons_zero, List.set_cons_succ]
            refine H_take (i := 10) (v := ?_) rfl (by kernel_rfl) (by kernel_rfl) (by kernel_rfl) (fun _ _ _ h => h.elim) HSS.out (by rfl) ?_ ?_
            rotate_left
            · (intro w' hw'; obtain ⟨j0, j1, _⟩ := hw'; first | (go_simp; done) | (go_simp; with_reducible rfl))
            try simp only [List.getElem_toArray, List.getElem_cons_zero, List.getElem_cons_succ, Act.put, List.setIfInBounds_toArray, List.set_cons_zero, List.set_cons_succ]
            refine H_step (i := 7) (by kernel_rfl) rfl (fun K hK => ?_)
            go_simp
            go_at_call 30
            refine HSG.out.mono ?_
            rintro e v1 ⟨rfl, hv1⟩
            have HV1 := Lib.hid (HBD.out.trans (hv1.mono HBD.out.size))
            have HS1 := Lib.hid (And.intro (HS0.out _ HV1.out).1 (And.intro (HS0.out _ HV1.out).2 (HK8.out _ (HBA.out.trans (HV1.out.mono hAz)))))
            clear hv1
            go_simp
            refine hK.out _ _ HS1.out ?_
            clear hK K
            try simp only [List.getElem_toArray, List.getElem_cons_zero, List.getElem_cons_succ, Act.put, List.setIfInBounds_toArray, List.set_cons_zero, List.set_cons_succ]
            have dbs : ((str (bs.take 8)).toList == (str Ck.sign).toList) = (bs.take 8 == Ck.sign) := by rw [str_list, str_list]
            generalize (bs.take 8 == Ck.sign) = sg at *
            have dsg : (sg == sg) = true := by simp
            refine H_take (i := 11) (v := ?_) rfl (by kernel_rfl) (by kernel_rfl) (by kernel_rfl) (fun _ _ _ h => h.elim) HS1.out (by rfl) ?_ ?_
            rotate_left
            · (intro w' hw'; obtain ⟨j0, j1, _⟩ := hw'; first | (go_simp; done) | (go_simp; with_reducible rfl))
            try simp only [List.getElem_toArray, List.getElem_cons_zero, List.getElem_cons_succ, Act.put, List.setIfInBounds_toArray, List.set_cons_zero, List.set_cons_succ]
            refine H_take (i := 12) (v := ?_) rfl (by kernel_rfl) (by kernel_rfl) (by kernel_rfl) (fun _ _ _ h => h.elim) HS1.out (by rfl) ?_ ?_
            rotate_left
            · (intro w' hw'; obtain ⟨j0, j1, _⟩ := hw'; first | (go_simp; done) | (go_simp; with_reducible rfl))
            try simp only [List.getElem_toArray, List.getElem_cons_zero, List.getElem_cons_succ, Act.put, List.setIfInBounds_toArray, List.set_cons_zero, List.set_cons_succ]
            refine H_take (i := 13) (v := ?_) rfl (by kernel_rfl) (by kernel_rfl) (by kernel_rfl) (fun _ _ _ h => h.elim) HS1.out (by rfl) ?_ ?_
            rotate_left
            · (intro w' hw'; obtain ⟨j0, j1, _⟩ := hw'; first | (go_simp; done) | (go_simp; with_reducible rfl))
            try simp only [List.getElem_toArray, List.getElem_cons_zero, List.getElem_cons_succ, Act.put, List.setIfInBounds_toArray, List.set_cons_zero, List.set_cons_succ]
            refine H_take (i := 14) (v := ?_) rfl (by kernel_rfl) (by kernel_rfl) (by kernel_rfl) (fun _ _ _ h => h.elim) HS1.out (by rfl) ?_ ?_
            rotate_left
            · (intro w' hw'; obtain ⟨j0, j1, j2⟩ := hw'; first | (go_simp; done) | (go_simp; with_reducible rfl))
            try simp only [List.getElem_toArray, List.getElem_cons_zero, List.getElem_cons_succ, Act.put, List.setIfInBounds_toArray, List.set_cons_zero, List.set_cons_succ]
            refine H_step (i := 15) (by kernel_rfl) rfl (fun K hK => ?_)
            go_simp
            go_at_call 31
            refine (sign_any _).mono ?_
            rintro e v2 ⟨g2, rfl, ho2, hv2⟩
            have hs2 := bs_of_own ho2 (by omega) 8 (Nat.le_refl _)
            rw [List.take_of_length_le (by decide)] at hs2
            have k2 := conv_bs (P := Try.prog) hs2 23 9 5 Try.underlying23 Try.underlying5 Try.underlying9
            have HV2 := Lib.hid (HV1.out.trans (hv2.mono HV1.out.size))
            have HS2 := Lib.hid (And.intro (HS0.out _ HV2.out).1 (And.intro (HS0.out _ HV2.out).2 (HK8.out _ (HBA.out.trans (HV2.out.mono hAz)))))
            have cr2 := (HXA.out.below HV2.out (by omega)).b3.cell
            have fr2 := (HXA.out.below HV2.out (by omega)).b3.frozen
            clear ho2 hv2 hs2
            go_simp
            refine hK.out _ _ HS2.out ?_
            clear hK K
            try simp only [List.getElem_toArray, List.getElem_cons_zero, List.getElem_cons_succ, Act.put, List.setIfInBounds_toArray, List.set_cons_zero, List.set_cons_succ]
            refine H_step (i := 16) (by kernel_rfl) rfl (fun K hK => ?_)
            go_simp
            refine hK.out _ _ HS2.out ?_
            clear hK K
            try simp only [List.getElem_toArray, List.getElem_cons_zero, List.getElem_cons_succ, Act.put, List.setIfInBounds_toArray, List.set_cons_zero, List.set_cons_succ]
            refine H_step (i := 17) (by kernel_rfl) rfl (fun K hK => ?_)
            go_simp
            refine hK.out _ _ HS2.out ?_
            clear hK K
            try simp only [List.getElem_toArray, List.getElem_cons_zero, List.getElem_cons_succ, Act.put, List.setIfInBounds_toArray, List.set_cons_zero, List.set_cons_succ]
            refine H_step (i := 18) (by kernel_rfl) rfl (fun K hK => ?_)
            go_simp
            refine hK.out _ _ HS2.out ?_
            clear hK K
            try simp only [List.getElem_toArray, List.getElem_cons_zero, List.getElem_cons_succ, Act.put, List.setIfInBounds_toArray, List.set_cons_zero, List.set_cons_succ]
            refine H_step (i := 19) (by kernel_rfl) rfl (fun K hK => ?_)
            go_simp
            refine hK.out _ _ HS2.out ?_
            clear hK K
            try simp only [List.getElem_toArray, List.getElem_cons_zero, List.getElem_cons_succ, Act.put, List.setIfInBounds_toArray, List.set_cons_zero, List.set_cons_succ]
            refine H_step (i := 20) (by kernel_rfl) rfl (fun K hK => ?_)
            go_simp
            refine hK.out _ _ HS2.out ?_
            clear hK K
            try simp only [List.getElem_toArray, List.getElem_cons_zero, List.getElem_cons_succ, Act.put, List.setIfInBounds_toArray, List.set_cons_zero, List.set_cons_succ]
            refine H_step (i := 21) (by kernel_rfl) rfl (fun K hK => ?_)
            go_simp
            have HS9 := Lib.hid (show (v2.setCell ⟨w.heap.size + 1 + 1 + 1, 0, none⟩ (.bool true)).cell? ⟨kb, 0, none⟩ = some (.int .i64 (Kn : Nat)) ∧ (v2.setCell ⟨w.heap.size + 1 + 1 + 1, 0, none⟩ (.bool true)).cell? ⟨w.heap.size + 1 + 1, 0, none⟩ = some (.int .i64 (N : Nat)) ∧ (convert 23 9 (.slice (some ⟨b8, o8, none⟩) 8 bc)).run Try.prog (v2.setCell ⟨w.heap.size + 1 + 1 + 1, 0, none⟩ (.bool true)) = .ok (.string (str (bs.take 8))) (v2.setCell ⟨w.heap.size + 1 + 1 + 1, 0, none⟩ (.bool true)) from ⟨by rw [cell_set_other (by omega)]; exact HS2.out.1, by rw [cell_set_other (by omega)]; exact HS2.out.2.1, HK8.out _ ((HBA.out.trans (HV2.out.mono hAz)).setCell (p := ⟨w.heap.size + 1 + 1 + 1, 0, none⟩) (by show w.heap.size ≤ w.heap.size + 1 + 1 + 1; omega) _)⟩)
            refine hK.out _ _ HS9.out ?_
            clear hK K
            try simp only [List.getElem_toArray, List.getElem_cons_zero, List.getElem_cons_succ, Act.put, List.setIfInBounds_toArray, List.set_cons_zero, List.set_cons_succ]
            refine wpAnyH_done (by kernel_rfl) ?_ _
            exact ⟨⟨_, _, _, _, _, _, _, _, _, _, _, _, _, _, _, _, _, _, _, _, _, rfl⟩, v2, HV2.out, rfl⟩
          case refine_2 =>
            intro e a' w' he
            cases e with
            | normal =>
              obtain ⟨⟨z115, z116, z117, z118, z119, z120, z121, z122, z123, z124, z125, z126, z127, z128, z129, z130, z131, z132, z133, z134, z135, rfl⟩, w2, hb2, rfl⟩ := he
              have hr2 := (HXA.out.below hb2 (by omega)).b3.set (.bool true)
              have hdf : (w2.setCell ⟨w.heap.size + 1 + 1 + 1, 0, none⟩ (.bool true)).heap[w7.heap.size]? = some (.deferred (some [])) := (KeepsOthers.setCell w2 _ _).same _ _ ((hb2.block _ (Array.getElem?_eq_some_iff.1 HKD.out).1).trans HKD.out) rfl
              have hbZ := (HBA.out.trans (hb2.mono hAz)).setCell (p := ⟨w.heap.size + 1 + 1 + 1, 0, none⟩) (by show w.heap.size ≤ w.heap.size + 1 + 1 + 1; omega) (.bool true)
              have h7z : w.heap.size ≤ w7.heap.size := HB7.out.size
              have hne : w.heap.size + 1 + 1 + 1 ≠ w7.heap.size := by omega
              have HF := Lib.hid (And.intro hr2 (And.intro hbZ (And.intro hdf (And.intro h7z hne))))
              clear hr2 hdf hbZ h7z hne hb2
              gi_wp2
              obtain ⟨q1, q2, q3, q4, q5⟩ := HF.out
              revert q1 q2 q3
              clear HF
              generalize w2.setCell ⟨w.heap.size + 1 + 1 + 1, 0, none⟩ (.bool true) = Y
              intro q1 q2 q3
              refine ⟨by simp, .inl ⟨_, _, rfl, run_takeDeferred q3, ?_⟩⟩
              exact ⟨_, res_bool Try.f8 rfl _ _ (w.heap.size + 1 + 1 + 1) true rfl (q1.kept (grownBy_putObj' _ w7.heap.size (.deferred none)) (by simpa using q5)).cell, rfl, q2.grown (grownBy_putObj' Y w7.heap.size (.deferred none)) q2.size (fun r e => by cases e; exact q4)⟩
            | _ => exact he.elim
        · have d8 : decide ((8 : Int) ≤ (bl : Int)) = false := by simp; omega
          have dsf : (bs.take 8 == Ck.sign) = false := by
            apply beq_false_of_ne
            intro e
            have := congrArg List.length e
            rw [List.length_take, hbl] at this
            simp [Ck.sign] at this
            omega
          rw [dsf] at HSG
          gi_wp2_with fail
          refine Go.wpIn_mono (region_wd (Q := EndsA (fun a' w' => (∃ z115 z116 z117 z118 z119 z120 z121 z122 z123 z124 z125 z126 z127 z128 z129 z130 z131 z132 z133 z134 z135 : Value, a' = { tmps := #[.slice a len cap, .string (str nm), .int .i64 m, .slice ba bl bc, .pointer (some ⟨w.heap.size, 0, none⟩), .pointer (some ⟨w.heap.size + 1, 0, none⟩), .pointer (some ⟨w.heap.size + 1 + 1, 0, none⟩), undef, .pointer (some ⟨w.heap.size + 1 + 1 + 1, 0, none⟩), .pointer (some ⟨kb, 0, none⟩), .pointer (some ⟨kb + 1, 0, none⟩), undef, undef, undef, .int .i64 (c : Nat), undef, u16, .bool true, .bool false, .slice a len cap, .bool false, .int .i64 m, .int .u64 (IntKind.u64.wrap m), .int .u64 ((IntKind.u64.wrap m).tmod 9), .int .i64 (wrap64 ((IntKind.u64.wrap m).tmod 9)), .int .i64 (wrap64 (1 + wrap64 ((IntKind.u64.wrap m).tmod 9))), .slice a len cap, .string (str nm), .func (.func 49) #[] #[.pointer (some ⟨X, 0, none⟩)], undef, undef, undef, undef, undef, undef, undef, undef, undef, undef, undef, undef, undef, undef, undef, undef, undef, undef, undef, undef, undef, undef, undef, undef, undef, undef, undef, undef, undef, undef, undef, undef, undef, undef, undef, undef, undef, undef, undef, undef, undef, undef, undef, undef, undef, undef, undef, undef, undef, undef, undef, undef, undef, undef, undef, undef, undef, undef, undef, undef, undef, undef, undef, undef, undef, undef, undef, undef, undef, undef, undef, undef, undef, .slice a len cap, .int .i64 (len : Nat), .int .i64 (len : Nat), .bool false, u106, u107, u108, u109, u110, u111, u112, u113, u114, z115, z116, z117, z118, z119, z120, z121, z122, z123, z124, z125, z126, z127, z128, z129, z130, z131, z132, z133, z134, z135], defers := [{ target := .collected w7.heap.size, args := #[] }] }) ∧ ∃ w2, Below A.heap.size A w2 ∧ w' = w2.setCell ⟨w.heap.size + 1 + 1 + 1, 0, none⟩ (.bool true)))
            (fun w' : World => w'.cell? ⟨kb, 0, none⟩ = some (.int .i64 (Kn : Nat)) ∧ w'.cell? ⟨w.heap.size + 1 + 1, 0, none⟩ = some (.int .i64 (N : Nat))) hmix (endsA_no _) ?_) ?_
          case refine_1 =>
            have hSS := HS0.out _ HBD.out
            have HSS := Lib.hid hSS
            clear hSS
            refine H_take (i := 0) (v := ?_) rfl (by kernel_rfl) (by kernel_rfl) (by kernel_rfl) (fun _ _ _ h => h.elim) HSS.out (by rfl) ?_ ?_
            rotate_left
            · (intro w' hw'; obtain ⟨j0, j1⟩ := hw'; first | (go_simp; done) | (go_simp; with_reducible rfl))
            try simp only [List.getElem_toArray, List.getElem_cons_zero, List.getElem_cons_succ, Act.put, List.setIfInBounds_toArray, List.set_cons_zero, List.set_cons_succ]
            refine H_take (i := 1) (v := ?_) rfl (by kernel_rfl) (by kernel_rfl) (by kernel_rfl) (fun _ _ _ h => h.elim) HSS.out (by rfl) ?_ ?_
            rotate_left
            · (intro w' hw'; obtain ⟨j0, j1⟩ := hw'; first | (go_simp; done) | (go_simp; with_reducible rfl))
            try simp only [List.getElem_toArray, List.getElem_cons_zero, List.getElem_cons_succ, Act.put, List.setIfInBounds_toArray, List.set_cons_zero, List.set_cons_succ]
            refine H_take (i := 2) (v := ?_) rfl (by kernel_rfl) (by kernel_rfl) (by kernel_rfl) (fun _ _ _ h => h.elim) HSS.out (by rfl) ?_ ?_
            rotate_left
            · (intro w' hw'; obtain ⟨j0, j1⟩ := hw'; first | (go_simp; done) | (go_simp; with_reducible rfl))
            try simp only [List.getElem_toArray, List.getElem_cons_zero, List.getElem_cons_succ, Act.put, List.setIfInBounds_toArray, List.set_cons_zero, List.set_cons_succ]
            refine H_take (i := 3) (v := ?_) rfl (by kernel_rfl) (by kernel_rfl) (by kernel_rfl) (fun _ _ _ h => h.elim) HSS.out (by rfl) ?_ ?_
            rotate_left
            · (intro w' hw'; obtain ⟨j0, j1⟩ := hw'; first | (go_simp; done) | (go_simp; with_reducible rfl))
            try simp only [List.getElem_toArray, List.getElem_cons_zero, List.getElem_cons_succ, Act.put, List.setIfInBounds_toArray, List.set_cons_zero, List.set_cons_succ]
            refine H_take (i := 4) (v := ?_) rfl (by kernel_rfl) (by kernel_rfl) (by kernel_rfl) (fun _ _ _ h => h.elim) HSS.out (by rfl) ?_ ?_
            rotate_left
            · (intro w' hw'; obtain ⟨j0, j1⟩ := hw'; first | (go_simp; done) | (go_simp; with_reducible rfl))
            try simp only [List.getElem_toArray, List.getElem_cons_zero, List.getElem_cons_succ, Act.put, List.setIfInBounds_toArray, List.set_cons_zero, List.set_cons_succ]
            refine H_take (i := 5) (v := ?_) rfl (by kernel_rfl) (by kernel_rfl) (by kernel_rfl) (fun _ _ _ h => h.elim) HSS.out (by rfl) ?_ ?_
            rotate_left
            · (intro w' hw'; obtain ⟨j0, j1⟩ := hw'; first | (go_simp; done) | (go_simp; with_reducible rfl))
            try simp only [List.getElem_toArray, List.getElem_cons_zero, List.getElem_cons_succ, Act.put, List.setIfInBounds_toArray, List.set_cons_zero, List.set_cons_succ]
            refine H_take (i := 6) (v := ?_) rfl (by kernel_rfl) (by kernel_rfl) (by kernel_rfl) (fun _ _ _ h => h.elim) HSS.out (by rfl) ?_ ?_
            rotate_left
            · (intro w' hw'; obtain ⟨j0, j1⟩ := hw'; first | (go_simp; done) | (go_simp; with_reducible rfl))
            try simp only [List.getElem_toArray, List.getElem_cons_zero, List.getElem_cons_succ, Act.put, List.setIfInBounds_toArray, List.set_cons_zero, List.set_cons_succ]
            refine H_take (i := 8) (v := ?_) rfl (by kernel_rfl) (by kernel_rfl) (by kernel_rfl) (fun _ _ _ h => h.elim) HSS.out (by rfl) ?_ ?_
            rotate_left
            · (intro w' hw'; obtain ⟨j0, j1⟩ := hw'; first | (go_simp; done) | (go_simp; with_reducible rfl))
            try simp only [List.getElem_toArray, List.getElem_cons_zero, List.getElem_cons_succ, Act.put, List.setIfInBounds_toArray, List.set_cons_zero, List.set_cons_succ]
            refine H_take (i := 9) (v := ?_) rfl (by kernel_rfl) (by kernel_rfl) (by kernel_rfl) (fun _ _ _ h => h.elim) HSS.out (by rfl) ?_ ?_
            rotate_left
            · (intro w' hw'; obtain ⟨j0, j1⟩ := hw'; first | (go_simp; done) | (go_simp; with_reducible rfl))
            try simp only [List.getElem_toArray, List.getElem_cons_zero, List.getElem_cons_succ, Act.put, List.setIfInBounds_toArray, List.set_cons_zero, List.set_cons_succ]
            refine H_take (i := 10) (v := ?_) rfl (by kernel_rfl) (by kernel_rfl) (by kernel_rfl) (fun _ _ _ h => h.elim) HSS.out (by rfl) ?_ ?_
            rotate_left
            · (intro w' hw'; obtain ⟨j0, j1⟩ := hw'; first | (go_simp; done) | (go_simp; with_reducible rfl))
            try simp only [List.getElem_toArray, List.getElem_cons_zero, List.getElem_cons_succ, Act.put, List.setIfInBounds_toArray, List.set_cons_zero, List.set_cons_succ]
            refine H_step (i := 7) (by kernel_rfl) rfl (fun K hK => ?_)
            go_simp
            go_at_call 30
            refine HSG.out.mono ?_
            rintro e v1 ⟨rfl, hv1⟩
            have HV1 := Lib.hid (HBD.out.trans (hv1.mono HBD.out.size))
            have HS1 := Lib.hid (HS0.out _ HV1.out)
            clear hv1
            go_simp
            refine hK.out _ _ HS1.out ?_
            clear hK K
            try simp only [List.getElem_toArray, List.getElem_cons_zero, List.getElem_cons_succ, Act.put, List.setIfInBounds_toArray, List.set_cons_zero, List.set_cons_succ]
            have cr2 := (HXA.out.below HV1.out (by omega)).b3.cell
            have fr2 := (HXA.out.below HV1.out (by omega)).b3.frozen
            refine H_take (i := 11) (v := ?_) rfl (by kernel_rfl) (by kernel_rfl) (by kernel_rfl) (fun _ _ _ h => h.elim) HS1.out (by rfl) ?_ ?_
            rotate_left
            · (intro w' hw'; obtain ⟨j0, j1⟩ := hw'; first | (go_simp; done) | (go_simp; with_reducible rfl))
            try simp only [List.getElem_toArray, List.getElem_cons_zero, List.getElem_cons_succ, Act.put, List.setIfInBounds_toArray, List.set_cons_zero, List.set_cons_succ]
            refine H_skip (i := 12) rfl (by kernel_rfl) (by kernel_rfl) (by kernel_rfl) (fun _ _ _ h => h.elim) HS1.out (by rfl) ?_
            try simp only [List.getElem_toArray, List.getElem_cons_zero, List.getElem_cons_succ, Act.put, List.setIfInBounds_toArray, List.set_cons_zero, List.set_cons_succ]
            refine H_skip (i := 13) rfl (by kernel_rfl) (by kernel_rfl) (by kernel_rfl) (fun _ _ _ h => h.elim) HS1.out (by rfl) ?_
            try simp only [List.getElem_toArray, List.getElem_cons_zero, List.getElem_cons_succ, Act.put, List.setIfInBounds_toArray, List.set_cons_zero, List.set_cons_succ]
            refine H_skip (i := 14) rfl (by kernel_rfl) (by kernel_rfl) (by kernel_rfl) (fun _ _ _ h => h.elim) HS1.out (by rfl) ?_
            try simp only [List.getElem_toArray, List.getElem_cons_zero, List.getElem_cons_succ, Act.put, List.setIfInBounds_toArray, List.set_cons_zero, List.set_cons_succ]
            refine H_step (i := 15) (by kernel_rfl) rfl (fun K hK => ?_)
            go_simp
            refine hK.out _ _ HS1.out ?_
            clear hK K
            try simp only [List.getElem_toArray, List.getElem_cons_zero, List.getElem_cons_succ, Act.put, List.setIfInBounds_toArray, List.set_cons_zero, List.set_cons_succ]
            refine H_step (i := 16) (by kernel_rfl) rfl (fun K hK => ?_)
            go_simp
            refine hK.out _ _ HS1.out ?_
            clear hK K
            try simp only [List.getElem_toArray, List.getElem_cons_zero, List.getElem_cons_succ, Act.put, List.setIfInBounds_toArray, List.set_cons_zero, List.set_cons_succ]
            refine H_step (i := 17) (by kernel_rfl) rfl (fun K hK => ?_)
            go_simp
            refine hK.out _ _ HS1.out ?_
            clear hK K
            try simp only [List.getElem_toArray, List.getElem_cons_zero, List.getElem_cons_succ, Act.put, List.setIfInBounds_toArray, List.set_cons_zero, List.set_cons_succ]
            refine H_step (i := 18) (by kernel_rfl) rfl (fun K hK => ?_)
            go_simp
            refine hK.out _ _ HS1.out ?_
            clear hK K
            try simp only [List.getElem_toArray, List.getElem_cons_zero, List.getElem_cons_succ, Act.put, List.setIfInBounds_toArray, List.set_cons_zero, List.set_cons_succ]
            refine H_step (i := 19) (by kernel_rfl) rfl (fun K hK => ?_)
            go_simp
            refine hK.out _ _ HS1.out ?_
            clear hK K
            try simp only [List.getElem_toArray, List.getElem_cons_zero, List.getElem_cons_succ, Act.put, List.setIfInBounds_toArray, List.set_cons_zero, List.set_cons_succ]
            refine H_step (i := 20) (by kernel_rfl) rfl (fun K hK => ?_)
            go_simp
            refine hK.out _ _ HS1.out ?_
            clear hK K
            try simp only [List.getElem_toArray, List.getElem_cons_zero, List.getElem_cons_succ, Act.put, List.setIfInBounds_toArray, List.set_cons_zero, List.set_cons_succ]
            refine H_step (i := 21) (by kernel_rfl) rfl (fun K hK => ?_)
            go_simp
            have HS9 := Lib.hid (show (v1.setCell ⟨w.heap.size + 1 + 1 + 1, 0, none⟩ (.bool true)).cell? ⟨kb, 0, none⟩ = some (.int .i64 (Kn : Nat)) ∧ (v1.setCell ⟨w.heap.size + 1 + 1 + 1, 0, none⟩ (.bool true)).cell? ⟨w.heap.size + 1 + 1, 0, none⟩ = some (.int .i64 (N : Nat)) from ⟨by rw [cell_set_other (by omega)]; exact HS1.out.1, by rw [cell_set_other (by omega)]; exact HS1.out.2⟩)
            refine hK.out _ _ HS9.out ?_
            clear hK K
            try simp only [List.getElem_toArray, List.getElem_cons_zero, List.getElem_cons_succ, Act.put, List.setIfInBounds_toArray, List.set_cons_zero, List.set_cons_succ]
            refine wpAnyH_done (by kernel_rfl) ?_ _
            exact ⟨⟨_, _, _, _, _, _, _, _, _, _, _, _, _, _, _, _, _, _, _, _, _, rfl⟩, v1, HV1.out, rfl⟩
          case refine_2 =>
            intro e a' w' he
            cases e with
            | normal =>
              obtain ⟨⟨z115, z116, z117, z118, z119, z120, z121, z122, z123, z124, z125, z126, z127, z128, z129, z130, z131, z132, z133, z134, z135, rfl⟩, w2, hb2, rfl⟩ := he
              have hr2 := (HXA.out.below hb2 (by omega)).b3.set (.bool true)
              have hdf : (w2.setCell ⟨w.heap.size + 1 + 1 + 1, 0, none⟩ (.bool true)).heap[w7.heap.size]? = some (.deferred (some [])) := (KeepsOthers.setCell w2 _ _).same _ _ ((hb2.block _ (Array.getElem?_eq_some_iff.1 HKD.out).1).trans HKD.out) rfl
              have hbZ := (HBA.out.trans (hb2.mono hAz)).setCell (p := ⟨w.heap.size + 1 + 1 + 1, 0, none⟩) (by show w.heap.size ≤ w.heap.size + 1 + 1 + 1; omega) (.bool true)
              have h7z : w.heap.size ≤ w7.heap.size := HB7.out.size
              have hne : w.heap.size + 1 + 1 + 1 ≠ w7.heap.size := by omega
              have HF := Lib.hid (And.intro hr2 (And.intro hbZ (And.intro hdf (And.intro h7z hne))))
              clear hr2 hdf hbZ h7z hne hb2
              gi_wp2
              obtain ⟨q1, q2, q3, q4, q5⟩ := HF.out
              revert q1 q2 q3
              clear HF
              generalize w2.setCell ⟨w.heap.size + 1 + 1 + 1, 0, none⟩ (.bool true) = Y
              intro q1 q2 q3
              refine ⟨by simp, .inl ⟨_, _, rfl, run_takeDeferred q3, ?_⟩⟩
              exact ⟨_, res_bool Try.f8 rfl _ _ (w.heap.size + 1 + 1 + 1) true rfl (q1.kept (grownBy_putObj' _ w7.heap.size (.deferred none)) (by simpa using q5)).cell, rfl, q2.grown (grownBy_putObj' Y w7.heap.size (.deferred none)) q2.size (fun r e => by cases e; exact q4)⟩
            | _ => exact he.elim
  case hout =>
    rintro c pre A ⟨s, hs⟩ ⟨rfl, h0, h1, h2⟩ hK
    obtain ⟨Kn, hKn⟩ : ∃ Kn, N = Kn := ⟨_, rfl⟩
    rw [hKn] at h2
    have HMIN : Hid ((if (hits l nm l.length).length < N then ((hits l nm l.length).length : Int) else (N : Int)) = (Kn : Int)) := Lib.hid (by
      have e1 := congrArg List.length hs
      rw [List.length_map, List.length_append, List.length_map] at e1
      have e2 := plis_len HPI.out
      rw [if_neg (by omega), hKn])
    clear hs h0 hKn
    have hz := HZ.out
    have hxA := HX7.out.below h1 hz.1
    have hbA := HB7.out.trans (h1.mono (by omega))
    have HXA := Lib.hid hxA
    have HBA := Lib.hid hbA
    have HKB := Lib.hid h2
    have HKD := Lib.hid hK
    have cA0 := hxA.b0.cell
    clear h1 h2 hK hxA hbA hit hk7' HX7
    gi_wp2
    gi_loopw [14, 104] (fun x i wr => ∃ k : Nat, k ≤ len ∧ i = .int .i64 k ∧ x = .int .i64 ((hits l nm k).length : Nat) ∧ Hid (Below A.heap.size A wr)) (fun _ i _ => len - (intOf i).toNat)
    case atStart => exact ⟨0, by omega, rfl, rfl, Lib.hid (Below.refl _ _)⟩
    case round =>
      obtain ⟨k, hk, rfl, rfl, HBW⟩ := hrel
      have hxw := HXA.out.below HBW.out (by have := HXA.out.b3.lt; omega)
      have cw1 := hxw.b1.cell
      by_cases hlt : k < len
      · obtain ⟨lb, lo, rfl, hlb, q0, q1, _⟩ := (H.out.mono (HBA.out.trans (HBW.out.mono HBA.out.size))).at' k hlt
        have hhy := fun h => hits_yes (l := l) (nm := nm) (k := k) h
        have hhn := fun h => hits_no (l := l) (nm := nm) (k := k) h
        have HHY := Lib.hid hhy
        have HHN := Lib.hid hhn
        have HLE := Lib.hid (hits_le l nm k)
        generalize nck l k = y at *
        obtain ⟨yn, ya, yl, yc, yd⟩ := y
        unfold Sl.val at q1
        simp only at q0 q1 HHY HHN
        have HB2 := Lib.hid (HBW.out.alloc HBW.out.size (.cells #[.string (str yn), .slice ya yl yc] 52))
        have cw2 := (hxw.below (below_alloc wr (.cells #[.string (str yn), .slice ya yl yc] 52)) (by have := hxw.b3.lt; omega)).b1.cell
        clear hhy hhn hxw
        have hle9 := HLE.out
        by_cases hn : yn = nm
        · have hie : ((str yn).toList == (str nm).toList) = true := by rw [hn]; simp
          have HLN : Hid ((hits l nm (k + 1)).length = (hits l nm k).length + 1) := Lib.hid (by rw [HHY.out hn]; simp)
          generalize (hits l nm k).length = c at *
          clear hn
          gi_wp2
          go_roundw
          case rel => exact ⟨k + 1, by omega, by go_num, by rw [HLN.out]; go_num, HB2⟩
          case measure => simp [intOf]; omega
        · have hie : ((str yn).toList == (str nm).toList) = false := by rw [str_list, str_list]; exact beq_false_of_ne hn
          have HLN : Hid ((hits l nm (k + 1)).length = (hits l nm k).length) := Lib.hid (by rw [HHN.out hn])
          generalize (hits l nm k).length = c at *
          clear hn
          gi_wp2
          go_roundw
          case rel => exact ⟨k + 1, by omega, by go_num, by rw [HLN.out], HB2⟩
          case measure => simp [intOf]; omega
      · obtain rfl : len = k := by omega
        have HMN : Hid ((if (hits l nm len).length < N then ((hits l nm len).length : Int) else (N : Int)) = (Kn : Int)) := Lib.hid (by rw [← H.out.hlen]; exact HMIN.out)
        have hmn : (if (hits l nm len).length < N then ((hits l nm len).length : Int) else (N : Int)) = (Kn : Int) := HMN.out
        have dkk : ((Kn : Int) == (Kn : Int)) = true := by simp
        clear hlt HMN HMIN
        generalize (hits l nm len).length = c at *
        have hAz := HBA.out.size
        have hlA := HXA.out.b3.lt
        have hkb9 := HKB.out.lt
        have hS0 : ∀ w', Below A.heap.size A w' → w'.cell? ⟨kb, 0, none⟩ = some (.int .i64 (Kn : Nat)) ∧ w'.cell? ⟨w.heap.size + 1 + 1, 0, none⟩ = some (.int .i64 (N : Nat)) := fun w' hb =>
          ⟨Boxed.cell ((hb.block _ hkb9).trans HKB.out), (HXA.out.below hb (by omega)).b2.cell⟩
        have HS0 := Lib.hid hS0
        have hbW := HBW.out
        have hbD : Below A.heap.size A wr.drew := hbW.trans ((Below.refl _ wr).drew.mono hbW.size)
        have HBD := Lib.hid hbD
        have HSG := Lib.hid (signed_any ba bl bc bs wr.drew (HB.out.mono (HBA.out.trans (hbD.mono hAz))))
        have hbl := HB.out.hlen
        clear hS0 hbW hbD
        by_cases h8 : 8 ≤ bl
        · obtain ⟨b8, o8, rfl, _, _⟩ := HB.out.at' 0 (by omega)
          have d8 : decide ((8 : Int) ≤ (bl : Int)) = true := by simp; omega
          have i8 : (8 : Int) ≤ (bc : Int) := by have := HB.out.hle; omega
          have hc2 := HB.out.hcap
          have hmx := HB.out.hmax
          have HK8 : Hid (∀ w', Below w.heap.size w w' → (convert 23 9 (.slice (some ⟨b8, o8, none⟩) 8 bc)).run Try.prog w' = .ok (.string (str (bs.take 8))) w') := Lib.hid (fun w' hb => conv_bs (P := Try.prog) ((HB.out.mono hb).take' 8 (by omega)) 23 9 5 Try.underlying23 Try.underlying5 Try.underlying9)
          gi_wp2_with fail
          refine Go.wpIn_mono (region_wd (Q := EndsA (fun a' w' => (∃ z115 z116 z117 z118 z119 z120 z121 z122 z123 z124 z125 z126 z127 z128 z129 z130 z131 z132 z133 z134 z135 : Value, a' = { tmps := #[.slice a len cap, .string (str nm), .int .i64 m, .slice (some ⟨b8, o8, none⟩) bl bc, .pointer (some ⟨w.heap.size, 0, none⟩), .pointer (some ⟨w.heap.size + 1, 0, none⟩), .pointer (some ⟨w.heap.size + 1 + 1, 0, none⟩), undef, .pointer (some ⟨w.heap.size + 1 + 1 + 1, 0, none⟩), .pointer (some ⟨kb, 0, none⟩), .pointer (some ⟨kb + 1, 0, none⟩), undef, undef, undef, .int .i64 (c : Nat), undef, u16, .bool true, .bool false, .slice a len cap, .bool false, .int .i64 m, .int .u64 (IntKind.u64.wrap m), .int .u64 ((IntKind.u64.wrap m).tmod 9), .int .i64 (wrap64 ((IntKind.u64.wrap m).tmod 9)), .int .i64 (wrap64 (1 + wrap64 ((IntKind.u64.wrap m).tmod 9))), .slice a len cap, .string (str nm), .func (.func 49) #[] #[.pointer (some ⟨X, 0, none⟩)], undef, undef, undef, undef, undef, undef, undef, undef, undef, undef, undef, undef, undef, undef, undef, undef, undef, undef, undef, undef, undef, undef, undef, undef, undef, undef, undef, undef, undef, undef, undef, undef, undef, undef, undef, undef, undef, undef, undef, undef, undef, undef, undef, undef, undef, undef, undef, undef, undef, undef, undef, undef, undef, undef, undef, undef, undef, undef, undef, undef, undef, undef, undef, undef, undef, undef, undef, undef, undef, undef, undef, undef, undef, .slice a len cap, .int .i64 (len : Nat), .int .i64 (len : Nat), .bool false, u106, u107, u108, u109, u110, u111, u112, u113, u114, z115, z116, z117, z118, z119, z120, z121, z122, z123, z124, z125, z126, z127, z128, z129, z130, z131, z132, z133, z134, z135], defers := [{ target := .collected w7.heap.size, args := #[] }] }) ∧ ∃ w2, Below A.heap.size A w2 ∧ w' = w2.setCell ⟨w.heap.size + 1 + 1 + 1, 0, none⟩ (.bool true)))
            (fun w' : World => w'.cell? ⟨kb, 0, none⟩ = some (.int .i64 (Kn : Nat)) ∧ w'.cell? ⟨w.heap.size + 1 + 1, 0, none⟩ = some (.int .i64 (N : Nat)) ∧ (convert 23 9 (.slice (some ⟨b8, o8, none⟩) 8 bc)).run Try.prog w' = .ok (.string (str (bs.take 8))) w') hmix (endsA_no _) ?_) ?_
          case refine_1 =>
            have hSS := And.intro (HS0.out _ HBD.out).1 (And.intro (HS0.out _ HBD.out).2 (HK8.out _ (HBA.out.trans (HBD.out.mono hAz))))
            have HSS := Lib.hid hSS
            clear hSS
            refine H_take (i := 0) (v := ?_) rfl (by kernel_rfl) (by kernel_rfl) (by kernel_rfl) (fun _ _ _ h => h.elim) HSS.out (by rfl) ?_ ?_
            rotate_left
            · (intro w' hw'; obtain ⟨j0, j1, _⟩ := hw'; first | (go_simp; done) | (go_simp; with_reducible rfl))
            try simp only [List.getElem_toArray, List.getElem_cons_zero, List.getElem_cons_succ, Act.put, List.setIfInBounds_toArray, List.set_cons_zero, List.set_cons_succ]
            refine H_take (i := 1) (v := ?_) rfl (by kernel_rfl) (by kernel_rfl) (by kernel_rfl) (fun _ _ _ h => h.elim) HSS.out (by rfl) ?_ ?_
            rotate_left
            · (intro w' hw'; obtain ⟨j0, j1, _⟩ := hw'; first | (go_simp; done) | (go_simp; with_reducible rfl))
            try simp only [List.getElem_toArray, List.getElem_cons_zero, List.getElem_cons_succ, Act.put, List.setIfInBounds_toArray, List.set_cons_zero, List.set_cons_succ]
            refine H_take (i := 2) (v := ?_) rfl (by kernel_rfl) (by kernel_rfl) (by kernel_rfl) (fun _ _ _ h => h.elim) HSS.out (by rfl) ?_ ?_
            rotate_left
            · (intro w' hw'; obtain ⟨j0, j1, _⟩ := hw'; first | (go_simp; done) | (go_simp; with_reducible rfl))
            try simp only [List.getElem_toArray, List.getElem_cons_zero, List.getElem_cons_succ, Act.put, List.setIfInBounds_toArray, List.set_cons_zero, List.set_cons_succ]
            refine H_take (i := 3) (v := ?_) rfl (by kernel_rfl) (by kernel_rfl) (by kernel_rfl) (fun _ _ _ h => h.elim) HSS.out (by rfl) ?_ ?_
            rotate_left
            · (intro w' hw'; obtain ⟨j0, j1, _⟩ := hw'; first | (go_simp; done) | (go_simp; with_reducible rfl))
            try simp only [List.getElem_toArray, List.getElem_cons_zero, List.getElem_cons_succ, Act.put, List.setIfInBounds_toArray, List.set_cons_zero, List.set_cons_succ]
            refine H_take (i := 4) (v := ?_) rfl (by kernel_rfl) (by kernel_rfl) (by kernel_rfl) (fun _ _ _ h => h.elim) HSS.out (by rfl) ?_ ?_
            rotate_left
            · (intro w' hw'; obtain ⟨j0, j1, _⟩ := hw'; first | (go_simp; done) | (go_simp; with_reducible rfl))
            try simp only [List.getElem_toArray, List.getElem_cons_zero, List.getElem_cons_succ, Act.put, List.setIfInBounds_toArray, List.set_cons_zero, List.set_cons_succ]
            refine H_take (i := 5) (v := ?_) rfl (by kernel_rfl) (by kernel_rfl) (by kernel_rfl) (fun _ _ _ h => h.elim) HSS.out (by rfl) ?_ ?_
            rotate_left
            · (intro w' hw'; obtain ⟨j0, j1, _⟩ := hw'; first | (go_simp; done) | (go_simp; with_reducible rfl))
            try simp only [List.getElem_toArray, List.getElem_cons_zero, List.getElem_cons_succ, Act.put, List.setIfInBounds_toArray, List.set_cons_zero, List.set_cons_succ]
            refine H_take (i := 6) (v := ?_) rfl (by kernel_rfl) (by kernel_rfl) (by kernel_rfl) (fun _ _ _ h => h.elim) HSS.out (by rfl) ?_ ?_
            rotate_left
            · (intro w' hw'; obtain ⟨j0, j1, _⟩ := hw'; first | (go_simp; done) | (go_simp; with_reducible rfl))
            try simp only [List.getElem_toArray, List.getElem_cons_zero, List.getElem_cons_succ, Act.put, List.setIfInBounds_toArray, List.set_cons_zero, List.set_cons_succ]
            refine H_take (i := 8) (v := ?_) rfl (by kernel_rfl) (by kernel_rfl) (by kernel_rfl) (fun _ _ _ h => h.elim) HSS.out (by rfl) ?_ ?_
            rotate_left
            · (intro w' hw'; obtain ⟨j0, j1, _⟩ := hw'; first | (go_simp; done) | (go_simp; with_reducible rfl))
            try simp only [List.getElem_toArray, List.getElem_cons_zero, List.getElem_cons_succ, Act.put, List.setIfInBounds_toArray, List.set_cons_zero, List.set_cons_succ]
            refine H_take (i := 9) (v := ?_) rfl (by kernel_rfl) (by kernel_rfl) (by kernel_rfl) (fun _ _ _ h => h.elim) HSS.out (by rfl) ?_ ?_
            rotate_left
            · (intro w' hw'; obtain ⟨j0, j1, _⟩ := hw'; first | (go_simp; done) | (go_simp; with_reducible rfl))
            try simp only [List.getElem_toArray, List.getElem_cons_zero, List.getElem_cons_succ, Act.put, List.setIfInBounds_toArray, List.set_cons_zero, List.set_cons_succ]
            refine H_take (i := 10) (v := ?_) rfl (by kernel_rfl) (by kernel_rfl) (by kernel_rfl) (fun _ _ _ h => h.elim) HSS.out (by rfl) ?_ ?_
            rotate_left
            · (intro w' hw'; obtain ⟨j0, j1, _⟩ := hw'; first | (go_simp; done) | (go_simp; with_reducible rfl))
            try simp only [List.getElem_toArray, List.getElem_cons_zero, List.getElem_cons_succ, Act.put, List.setIfInBounds_toArray, List.set_cons_zero, List.set_cons_succ]
            refine H_step (i := 7) (by kernel_rfl) rfl (fun K hK => ?_)
            go_simp
            go_at_call 30
            refine HSG.out.mono ?_
            rintro e v1 ⟨rfl, hv1⟩
            have HV1 := Lib.hid (HBD.out.trans (hv1.mono HBD.out.size))
            have HS1 := Lib.hid (And.intro (HS0.out _ HV1.out).1 (And.intro (HS0.out _ HV1.out).2 (HK8.out _ (HBA.out.trans (HV1.out.mono hAz)))))
            clear hv1
            go_simp
            refine hK.out _ _ HS1.out ?_
            clear hK K
            try simp only [List.getElem_toArray, List.getElem_cons_zero, List.getElem_cons_succ, Act.put, List.setIfInBounds_toArray, List.set_cons_zero, List.set_cons_succ]
            have dbs : ((str (bs.take 8)).toList == (str Ck.sign).toList) = (bs.take 8 == Ck.sign) := by rw [str_list, str_list]
            generalize (bs.take 8 == Ck.sign) = sg at *
            have dsg : (sg == sg) = true := by simp
            refine H_take (i := 11) (v := ?_) rfl (by kernel_rfl) (by kernel_rfl) (by kernel_rfl) (fun _ _ _ h => h.elim) HS1.out (by rfl) ?_ ?_
            rotate_left
            · (intro w' hw'; obtain ⟨j0, j1, _⟩ := hw'; first | (go_simp; done) | (go_simp; with_reducible rfl))
            try simp only [List.getElem_toArray, List.getElem_cons_zero, List.getElem_cons_succ, Act.put, List.setIfInBounds_toArray, List.set_cons_zero, List.set_cons_succ]
            refine H_take (i := 12) (v := ?_) rfl (by kernel_rfl) (by kernel_rfl) (by kernel_rfl) (fun _ _ _ h => h.elim) HS1.out (by rfl) ?_ ?_
            rotate_left
            · (intro w' hw'; obtain ⟨j0, j1, _⟩ := hw'; first | (go_simp; done) | (go_simp; with_reducible rfl))
            try simp only [List.getElem_toArray, List.getElem_cons_zero, List.getElem_cons_succ, Act.put, List.setIfInBounds_toArray, List.set_cons_zero, List.set_cons_succ]
            refine H_take (i := 13) (v := ?_) rfl (by kernel_rfl) (by kernel_rfl) (by kernel_rfl) (fun _ _ _ h => h.elim) HS1.out (by rfl) ?_ ?_
            rotate_left
            · (intro w' hw'; obtain ⟨j0, j1, _⟩ := hw'; first | (go_simp; done) | (go_simp; with_reducible rfl))
            try simp only [List.getElem_toArray, List.getElem_cons_zero, List.getElem_cons_succ, Act.put, List.setIfInBounds_toArray, List.set_cons_zero, List.set_cons_succ]
            refine H_take (i := 14) (v := ?_) rfl (by kernel_rfl) (by kernel_rfl) (by kernel_rfl) (fun _ _ _ h => h.elim) HS1.out (by rfl) ?_ ?_
            rotate_left
            · (intro w' hw'; obtain ⟨j0, j1, j2⟩ := hw'; first | (go_simp; done) | (go_simp; with_reducible rfl))
            try simp only [List.getElem_toArray, List.getElem_cons_zero, List.getElem_cons_succ, Act.put, List.setIfInBounds_toArray, List.set_cons_zero, List.set_cons_succ]
            refine H_step (i := 15) (by kernel_rfl) rfl (fun K hK => ?_)
            go_simp
            go_at_call 31
            refine (sign_any _).mono ?_
            rintro e v2 ⟨g2, rfl, ho2, hv2⟩
            have hs2 := bs_of_own ho2 (by omega) 8 (Nat.le_refl _)
            rw [List.take_of_length_le (by decide)] at hs2
            have k2 := conv_bs (P := Try.prog) hs2 23 9 5 Try.underlying23 Try.underlying5 Try.underlying9
            have HV2 := Lib.hid (HV1.out.trans (hv2.mono HV1.out.size))
            have HS2 := Lib.hid (And.intro (HS0.out _ HV2.out).1 (And.intro (HS0.out _ HV2.out).2 (HK8.out _ (HBA.out.trans (HV2.out.mono hAz)))))
            have cr2 := (HXA.out.below HV2.out (by omega)).b3.cell
            have fr2 := (HXA.out.below HV2.out (by omega)).b3.frozen
            clear ho2 hv2 hs2
            go_simp
            refine hK.out _ _ HS2.out ?_
            clear hK K
            try simp only [List.getElem_toArray, List.getElem_cons_zero, List.getElem_cons_succ, Act.put, List.setIfInBounds_toArray, List.set_cons_zero, List.set_cons_succ]
            refine H_step (i := 16) (by kernel_rfl) rfl (fun K hK => ?_)
            go_simp
            refine hK.out _ _ HS2.out ?_
            clear hK K
            try simp only [List.getElem_toArray, List.getElem_cons_zero, List.getElem_cons_succ, Act.put, List.setIfInBounds_toArray, List.set_cons_zero, List.set_cons_succ]
            refine H_step (i := 17) (by kernel_rfl) rfl (fun K hK => ?_)
            go_simp
            refine hK.out _ _ HS2.out ?_
            clear hK K
            try simp only [List.getElem_toArray, List.getElem_cons_zero, List.getElem_cons_succ, Act.put, List.setIfInBounds_toArray, List.set_cons_zero, List.set_cons_succ]
            refine H_step (i := 18) (by kernel_rfl) rfl (fun K hK => ?_)
            go_simp
            refine hK.out _ _ HS2.out ?_
            clear hK K
            try simp only [List.getElem_toArray, List.getElem_cons_zero, List.getElem_cons_succ, Act.put, List.setIfInBounds_toArray, List.set_cons_zero, List.set_cons_succ]
            refine H_step (i := 19) (by kernel_rfl) rfl (fun K hK => ?_)
            go_simp
            refine hK.out _ _ HS2.out ?_
            clear hK K
            try simp only [List.getElem_toArray, List.getElem_cons_zero, List.getElem_cons_succ, Act.put, List.setIfInBounds_toArray, List.set_cons_zero, List.set_cons_succ]
            refine H_step (i := 20) (by kernel_rfl) rfl (fun K hK => ?_)
            go_simp
            refine hK.out _ _ HS2.out ?_
            clear hK K
            try simp only [List.getElem_toArray, List.getElem_cons_zero, List.getElem_cons_succ, Act.put, List.setIfInBounds_toArray, List.set_cons_zero, List.set_cons_succ]
            refine H_step (i := 21) (by kernel_rfl) rfl (fun K hK => ?_)
            go_simp
            have HS9 := Lib.hid (show (v2.setCell ⟨w.heap.size + 1 + 1 + 1, 0, none⟩ (.bool true)).cell? ⟨kb, 0, none⟩ = some (.int .i64 (Kn : Nat)) ∧ (v2.setCell ⟨w.heap.size + 1 + 1 + 1, 0, none⟩ (.bool true)).cell? ⟨w.heap.size + 1 + 1, 0, none⟩ = some (.int .i64 (N : Nat)) ∧ (convert 23 9 (.slice (some ⟨b8, o8, none⟩) 8 bc)).run Try.prog (v2.setCell ⟨w.heap.size + 1 + 1 + 1, 0, none⟩ (.bool true)) = .ok (.string (str (bs.take 8))) (v2.setCell ⟨w.heap.size + 1 + 1 + 1, 0, none⟩ (.bool true)) from ⟨by rw [cell_set_other (by omega)]; exact HS2.out.1, by rw [cell_set_other (by omega)]; exact HS2.out.2.1, HK8.out _ ((HBA.out.trans (HV2.out.mono hAz)).setCell (p := ⟨w.heap.size + 1 + 1 + 1, 0, none⟩) (by show w.heap.size ≤ w.heap.size + 1 + 1 + 1; omega) _)⟩)
            refine hK.out _ _ HS9.out ?_
            clear hK K
            try simp only [List.getElem_toArray, List.getElem_cons_zero, List.getElem_cons_succ, Act.put, List.setIfInBounds_toArray, List.set_cons_zero, List.set_cons_succ]
            refine wpAnyH_done (by kernel_rfl) ?_ _
            exact ⟨⟨_, _, _, _, _, _, _, _, _, _, _, _, _, _, _, _, _, _, _, _, _, rfl⟩, v2, HV2.out, rfl⟩
          case refine_2 =>
            intro e a' w' he
            cases e with
            | normal =>
              obtain ⟨⟨z115, z116, z117, z118, z119, z120, z121, z122, z123, z124, z125, z126, z127, z128, z129, z130, z131, z132, z133, z134, z135, rfl⟩, w2, hb2, rfl⟩ := he
              have hr2 := (HXA.out.below hb2 (by omega)).b3.set (.bool true)
              have hdf : (w2.setCell ⟨w.heap.size + 1 + 1 + 1, 0, none⟩ (.bool true)).heap[w7.heap.size]? = some (.deferred (some [])) := (KeepsOthers.setCell w2 _ _).same _ _ ((hb2.block _ (Array.getElem?_eq_some_iff.1 HKD.out).1).trans HKD.out) rfl
              have hbZ := (HBA.out.trans (hb2.mono hAz)).setCell (p := ⟨w.heap.size + 1 + 1 + 1, 0, none⟩) (by show w.heap.size ≤ w.heap.size + 1 + 1 + 1; omega) (.bool true)
              have h7z : w.heap.size ≤ w7.heap.size := HB7.out.size
              have hne : w.heap.size + 1 + 1 + 1 ≠ w7.heap.size := by omega
              have HF := Lib.hid (And.intro hr2 (And.intro hbZ (And.intro hdf (And.intro h7z hne))))
              clear hr2 hdf hbZ h7z hne hb2
              gi_wp2
              obtain ⟨q1, q2, q3, q4, q5⟩ := HF.out
              revert q1 q2 q3
              clear HF
              generalize w2.setCell ⟨w.heap.size + 1 + 1 + 1, 0, none⟩ (.bool true) = Y
              intro q1 q2 q3
              refine ⟨by simp, .inl ⟨_, _, rfl, run_takeDeferred q3, ?_⟩⟩
              exact ⟨_, res_bool Try.f8 rfl _ _ (w.heap.size + 1 + 1 + 1) true rfl (q1.kept (grownBy_putObj' _ w7.heap.size (.deferred none)) (by simpa using q5)).cell, rfl, q2.grown (grownBy_putObj' Y w7.heap.size (.deferred none)) q2.size (fun r e => by cases e; exact q4)⟩
            | _ => exact he.elim
        · have d8 : decide ((8 : Int) ≤ (bl : Int)) = false := by simp; omega
          have dsf : (bs.take 8 == Ck.sign) = false := by
            apply beq_false_of_ne
            intro e
            have := congrArg List.length e
            rw [List.length_take, hbl] at this
            simp [Ck.sign] at this
            omega
          rw [dsf] at HSG
          gi_wp2_with fail
          refine Go.wpIn_mono (region_wd (Q := EndsA (fun a' w' => (∃ z115 z116 z117 z118 z119 z120 z121 z122 z123 z124 z125 z126 z127 z128 z129 z130 z131 z132 z133 z134 z135 : Value, a' = { tmps := #[.slice a len cap, .string (str nm), .int .i64 m, .slice ba bl bc, .pointer (some ⟨w.heap.size, 0, none⟩), .pointer (some ⟨w.heap.size + 1, 0, none⟩), .pointer (some ⟨w.heap.size + 1 + 1, 0, none⟩), undef, .pointer (some ⟨w.heap.size + 1 + 1 + 1, 0, none⟩), .pointer (some ⟨kb, 0, none⟩), .pointer (some ⟨kb + 1, 0, none⟩), undef, undef, undef, .int .i64 (c : Nat), undef, u16, .bool true, .bool false, .slice a len cap, .bool false, .int .i64 m, .int .u64 (IntKind.u64.wrap m), .int .u64 ((IntKind.u64.wrap m).tmod 9), .int .i64 (wrap64 ((IntKind.u64.wrap m).tmod 9)), .int .i64 (wrap64 (1 + wrap64 ((IntKind.u64.wrap m).tmod 9))), .slice a len cap, .string (str nm), .func (.func 49) #[] #[.pointer (some ⟨X, 0, none⟩)], undef, undef, undef, undef, undef, undef, undef, undef, undef, undef, undef, undef, undef, undef, undef, undef, undef, undef, undef, undef, undef, undef, undef, undef, undef, undef, undef, undef, undef, undef, undef, undef, undef, undef, undef, undef, undef, undef, undef, undef, undef, undef, undef, undef, undef, undef, undef, undef, undef, undef, undef, undef, undef, undef, undef, undef, undef, undef, undef, undef, undef, undef, undef, undef, undef, undef, undef, undef, undef, undef, undef, undef, undef, .slice a len cap, .int .i64 (len : Nat), .int .i64 (len : Nat), .bool false, u106, u107, u108, u109, u110, u111, u112, u113, u114, z115, z116, z117, z118, z119, z120, z121, z122, z123, z124, z125, z126, z127, z128, z129, z130, z131, z132, z133, z134, z135], defers := [{ target := .collected w7.heap.size, args := #[] }] }) ∧ ∃ w2, Below A.heap.size A w2 ∧ w' = w2.setCell ⟨w.heap.size + 1 + 1 + 1, 0, none⟩ (.bool true)))
            (fun w' : World => w'.cell? ⟨kb, 0, none⟩ = some (.int .i64 (Kn : Nat)) ∧ w'.cell? ⟨w.heap.size + 1 + 1, 0, none⟩ = some (.int .i64 (N : Nat))) hmix (endsA_no _) ?_) ?_
          case refine_1 =>
            have hSS := HS0.out _ HBD.out
            have HSS := Lib.hid hSS
            clear hSS
            refine H_take (i := 0) (v := ?_) rfl (by kernel_rfl) (by kernel_rfl) (by kernel_rfl) (fun _ _ _ h => h.elim) HSS.out (by rfl) ?_ ?_
            rotate_left
            · (intro w' hw'; obtain ⟨j0, j1⟩ := hw'; first | (go_simp; done) | (go_simp; with_reducible rfl))
            try simp only [List.getElem_toArray, List.getElem_cons_zero, List.getElem_cons_succ, Act.put, List.setIfInBounds_toArray, List.set_cons_zero, List.set_cons_succ]
            refine H_take (i := 1) (v := ?_) rfl (by kernel_rfl) (by kernel_rfl) (by kernel_rfl) (fun _ _ _ h => h.elim) HSS.out (by rfl) ?_ ?_
            rotate_left
            · (intro w' hw'; obtain ⟨j0, j1⟩ := hw'; first | (go_simp; done) | (go_simp; with_reducible rfl))
            try simp only [List.getElem_toArray, List.getElem_cons_zero, List.getElem_cons_succ, Act.put, List.setIfInBounds_toArray, List.set_cons_zero, List.set_cons_succ]
            refine H_take (i := 2) (v := ?_) rfl (by kernel_rfl) (by kernel_rfl) (by kernel_rfl) (fun _ _ _ h => h.elim) HSS.out (by rfl) ?_ ?_
            rotate_left
            · (intro w' hw'; obtain ⟨j0, j1⟩ := hw'; first | (go_simp; done) | (go_simp; with_reducible rfl))
            try simp only [List.getElem_toArray, List.getElem_cons_zero, List.getElem_cons_succ, Act.put, List.setIfInBounds_toArray, List.set_cons_zero, List.set_cons_succ]
            refine H_take (i := 3) (v := ?_) rfl (by kernel_rfl) (by kernel_rfl) (by kernel_rfl) (fun _ _ _ h => h.elim) HSS.out (by rfl) ?_ ?_
            rotate_left
            · (intro w' hw'; obtain ⟨j0, j1⟩ := hw'; first | (go_simp; done) | (go_simp; with_reducible rfl))
            try simp only [List.getElem_toArray, List.getElem_cons_zero, List.getElem_cons_succ, Act.put, List.setIfInBounds_toArray, List.set_cons_zero, List.set_cons_succ]
            refine H_take (i := 4) (v := ?_) rfl (by kernel_rfl) (by kernel_rfl) (by kernel_rfl) (fun _ _ _ h => h.elim) HSS.out (by rfl) ?_ ?_
            rotate_left
            · (intro w' hw'; obtain ⟨j0, j1⟩ := hw'; first | (go_simp; done) | (go_simp; with_reducible rfl))
            try simp only [List.getElem_toArray, List.getElem_cons_zero, List.getElem_cons_succ, Act.put, List.setIfInBounds_toArray, List.set_cons_zero, List.set_cons_succ]
            refine H_take (i := 5) (v := ?_) rfl (by kernel_rfl) (by kernel_rfl) (by kernel_rfl) (fun _ _ _ h => h.elim) HSS.out (by rfl) ?_ ?_
            rotate_left
            · (intro w' hw'; obtain ⟨j0, j1⟩ := hw'; first | (go_simp; done) | (go_simp; with_reducible rfl))
            try simp only [List.getElem_toArray, List.getElem_cons_zero, List.getElem_cons_succ, Act.put, List.setIfInBounds_toArray, List.set_cons_zero, List.set_cons_succ]
            refine H_take (i := 6) (v := ?_) rfl (by kernel_rfl) (by kernel_rfl) (by kernel_rfl) (fun _ _ _ h => h.elim) HSS.out (by rfl) ?_ ?_
            rotate_left
            · (intro w' hw'; obtain ⟨j0, j1⟩ := hw'; first | (go_simp; done) | (go_simp; with_reducible rfl))
            try simp only [List.getElem_toArray, List.getElem_cons_zero, List.getElem_cons_succ, Act.put, List.setIfInBounds_toArray, List.set_cons_zero, List.set_cons_succ]
            refine H_take (i := 8) (v := ?_) rfl (by kernel_rfl) (by kernel_rfl) (by kernel_rfl) (fun _ _ _ h => h.elim) HSS.out (by rfl) ?_ ?_
            rotate_left
            · (intro w' hw'; obtain ⟨j0, j1⟩ := hw'; first | (go_simp; done) | (go_simp; with_reducible rfl))
            try simp only [List.getElem_toArray, List.getElem_cons_zero, List.getElem_cons_succ, Act.put, List.setIfInBounds_toArray, List.set_cons_zero, List.set_cons_succ]
            refine H_take (i := 9) (v := ?_) rfl (by kernel_rfl) (by kernel_rfl) (by kernel_rfl) (fun _ _ _ h => h.elim) HSS.out (by rfl) ?_ ?_
            rotate_left
            · (intro w' hw'; obtain ⟨j0, j1⟩ := hw'; first | (go_simp; done) | (go_simp; with_reducible rfl))
            try simp only [List.getElem_toArray, List.getElem_cons_zero, List.getElem_cons_succ, Act.put, List.setIfInBounds_toArray, List.set_cons_zero, List.set_cons_succ]
            refine H_take (i := 10) (v := ?_) rfl (by kernel_rfl) (by kernel_rfl) (by kernel_rfl) (fun _ _ _ h => h.elim) HSS.out (by rfl) ?_ ?_
            rotate_left
            · (intro w' hw'; obtain ⟨j0, j1⟩ := hw'; first | (go_simp; done) | (go_simp; with_reducible rfl))
            try simp only [List.getElem_toArray, List.getElem_cons_zero, List.getElem_cons_succ, Act.put, List.setIfInBounds_toArray, List.set_cons_zero, List.set_cons_succ]
            refine H_step (i := 7) (by kernel_rfl) rfl (fun K hK => ?_)
            go_simp
            go_at_call 30
            refine HSG.out.mono ?_
            rintro e v1 ⟨rfl, hv1⟩
            have HV1 := Lib.hid (HBD.out.trans (hv1.mono HBD.out.size))
            have HS1 := Lib.hid (HS0.out _ HV1.out)
            clear hv1
            go_simp
            refine hK.out _ _ HS1.out ?_
            clear hK K
            try simp only [List.getElem_toArray, List.getElem_cons_zero, List.getElem_cons_succ, Act.put, List.setIfInBounds_toArray, List.set_cons_zero, List.set_cons_succ]
            have cr2 := (HXA.out.below HV1.out (by omega)).b3.cell
            have fr2 := (HXA.out.below HV1.out (by omega)).b3.frozen
            refine H_take (i := 11) (v := ?_) rfl (by kernel_rfl) (by kernel_rfl) (by kernel_rfl) (fun _ _ _ h => h.elim) HS1.out (by rfl) ?_ ?_
            rotate_left
            · (intro w' hw'; obtain ⟨j0, j1⟩ := hw'; first | (go_simp; done) | (go_simp; with_reducible rfl))
            try simp only [List.getElem_toArray, List.getElem_cons_zero, List.getElem_cons_succ, Act.put, List.setIfInBounds_toArray, List.set_cons_zero, List.set_cons_succ]
            refine H_skip (i := 12) rfl (by kernel_rfl) (by kernel_rfl) (by kernel_rfl) (fun _ _ _ h => h.elim) HS1.out (by rfl) ?_
            try simp only [List.getElem_toArray, List.getElem_cons_zero, List.getElem_cons_succ, Act.put, List.setIfInBounds_toArray, List.set_cons_zero, List.set_cons_succ]
            refine H_skip (i := 13) rfl (by kernel_rfl) (by kernel_rfl) (by kernel_rfl) (fun _ _ _ h => h.elim) HS1.out (by rfl) ?_
            try simp only [List.getElem_toArray, List.getElem_cons_zero, List.getElem_cons_succ, Act.put, List.setIfInBounds_toArray, List.set_cons_zero, List.set_cons_succ]
            refine H_skip (i := 14) rfl (by kernel_rfl) (by kernel_rfl) (by kernel_rfl) (fun _ _ _ h => h.elim) HS1.out (by rfl) ?_
            try simp only [List.getElem_toArray, List.getElem_cons_zero, List.getElem_cons_succ, Act.put, List.setIfInBounds_toArray, List.set_cons_zero, List.set_cons_succ]
            refine H_step (i := 15) (by kernel_rfl) rfl (fun K hK => ?_)
            go_simp
            refine hK.out _ _ HS1.out ?_
            clear hK K
            try simp only [List.getElem_toArray, List.getElem_cons_zero, List.getElem_cons_succ, Act.put, List.setIfInBounds_toArray, List.set_cons_zero, List.set_cons_succ]
            refine H_step (i := 16) (by kernel_rfl) rfl (fun K hK => ?_)
            go_simp
            refine hK.out _ _ HS1.out ?_
            clear hK K
            try simp only [List.getElem_toArray, List.getElem_cons_zero, List.getElem_cons_succ, Act.put, List.setIfInBounds_toArray, List.set_cons_zero, List.set_cons_succ]
            refine H_step (i := 17) (by kernel_rfl) rfl (fun K hK => ?_)
            go_simp
            refine hK.out _ _ HS1.out ?_
            clear hK K
            try simp only [List.getElem_toArray, List.getElem_cons_zero, List.getElem_cons_succ, Act.put, List.setIfInBounds_toArray, List.set_cons_zero, List.set_cons_succ]
            refine H_step (i := 18) (by kernel_rfl) rfl (fun K hK => ?_)
            go_simp
            refine hK.out _ _ HS1.out ?_
            clear hK K
            try simp only [List.getElem_toArray, List.getElem_cons_zero, List.getElem_cons_succ, Act.put, List.setIfInBounds_toArray, List.set_cons_zero, List.set_cons_succ]
            refine H_step (i := 19) (by kernel_rfl) rfl (fun K hK => ?_)
            go_simp
            refine hK.out _ _ HS1.out ?_
            clear hK K
            try simp only [List.getElem_toArray, List.getElem_cons_zero, List.getElem_cons_succ, Act.put, List.setIfInBounds_toArray, List.set_cons_zero, List.set_cons_succ]
            refine H_step (i := 20) (by kernel_rfl) rfl (fun K hK => ?_)
            go_simp
            refine hK.out _ _ HS1.out ?_
            clear hK K
            try simp only [List.getElem_toArray, List.getElem_cons_zero, List.getElem_cons_succ, Act.put, List.setIfInBounds_toArray, List.set_cons_zero, List.set_cons_succ]
            refine H_step (i := 21) (by kernel_rfl) rfl (fun K hK => ?_)
            go_simp
            have HS9 := Lib.hid (show (v1.setCell ⟨w.heap.size + 1 + 1 + 1, 0, none⟩ (.bool true)).cell? ⟨kb, 0, none⟩ = some (.int .i64 (Kn : Nat)) ∧ (v1.setCell ⟨w.heap.size + 1 + 1 + 1, 0, none⟩ (.bool true)).cell? ⟨w.heap.size + 1 + 1, 0, none⟩ = some (.int .i64 (N : Nat)) from ⟨by rw [cell_set_other (by omega)]; exact HS1.out.1, by rw [cell_set_other (by omega)]; exact HS1.out.2⟩)
            refine hK.out _ _ HS9.out ?_
            clear hK K
            try simp only [List.getElem_toArray, List.getElem_cons_zero, List.getElem_cons_succ, Act.put, List.setIfInBounds_toArray, List.set_cons_zero, List.set_cons_succ]
            refine wpAnyH_done (by kernel_rfl) ?_ _
            exact ⟨⟨_, _, _, _, _, _, _, _, _, _, _, _, _, _, _, _, _, _, _, _, _, rfl⟩, v1, HV1.out, rfl⟩
          case refine_2 =>
            intro e a' w' he
            cases e with
            | normal =>
              obtain ⟨⟨z115, z116, z117, z118, z119, z120, z121, z122, z123, z124, z125, z126, z127, z128, z129, z130, z131, z132, z133, z134, z135, rfl⟩, w2, hb2, rfl⟩ := he
              have hr2 := (HXA.out.below hb2 (by omega)).b3.set (.bool true)
              have hdf : (w2.setCell ⟨w.heap.size + 1 + 1 + 1, 0, none⟩ (.bool true)).heap[w7.heap.size]? = some (.deferred (some [])) := (KeepsOthers.setCell w2 _ _).same _ _ ((hb2.block _ (Array.getElem?_eq_some_iff.1 HKD.out).1).trans HKD.out) rfl
              have hbZ := (HBA.out.trans (hb2.mono hAz)).setCell (p := ⟨w.heap.size + 1 + 1 + 1, 0, none⟩) (by show w.heap.size ≤ w.heap.size + 1 + 1 + 1; omega) (.bool true)
              have h7z : w.heap.size ≤ w7.heap.size := HB7.out.size
              have hne : w.heap.size + 1 + 1 + 1 ≠ w7.heap.size := by omega
              have HF := Lib.hid (And.intro hr2 (And.intro hbZ (And.intro hdf (And.intro h7z hne))))
              clear hr2 hdf hbZ h7z hne hb2
              gi_wp2
              obtain ⟨q1, q2, q3, q4, q5⟩ := HF.out
              revert q1 q2 q3
              clear HF
              generalize w2.setCell ⟨w.heap.size + 1 + 1 + 1, 0, none⟩ (.bool true) = Y
              intro q1 q2 q3
              refine ⟨by simp, .inl ⟨_, _, rfl, run_takeDeferred q3, ?_⟩⟩
              exact ⟨_, res_bool Try.f8 rfl _ _ (w.heap.size + 1 + 1 + 1) true rfl (q1.kept (grownBy_putObj' _ w7.heap.size (.deferred none)) (by simpa using q5)).cell, rfl, q2.grown (grownBy_putObj' Y w7.heap.size (.deferred none)) q2.size (fun r e => by cases e; exact q4)⟩
            | _ => exact he.elim
end Go.Proofs.Ytfhmmlpcdgcmoaa
