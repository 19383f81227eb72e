/- For all lengths (of at most 600, as the law itself asks) and numbers: a book's symbols come in order, with the lengths of their codes, as the document says, however many are asked for. No conditions. -/
import Derived.Test.YtnlbomijnldlmaaRows
import Derived.Test.YtnlbomijnldlmaaOpen
import Derived.Test.YtnlbomijnldlmaaLawCanon
import Derived.Test.YtnlbomijnldlmaaAllIt
import Derived.Test.YtnlbomijnldlmaaBookLow
import Derived.Test.YtnlbomijnldlmaaMarks
import Derived.Test.YtnlbomijnldlmaaRef04d
namespace Go.Proofs.Ytnlbomijnldlmaa.CanonAll
open Go.ChangeShapes Go.WideShapes Go.ChangeAt Go.RowKit
open Go.ChangeMaps (open_string shut_string)
set_option linter.unusedVariables false
theorem own : ownKnob Try.prog.godebug = none := by kernel_rfl
theorem laidOut : laidOutB Try.prog = true := by kernel_rfl
open Go.Shelf Bk
attribute [local go_sem] Oper.semAt_some
theorem ex_word5 : wAt (wsOf (seq (rowsL Cn.ex) 17) Cn.ex.length) 5 = (0, 2) := by decide
theorem ex_word8 : wAt (wsOf (seq (rowsL Cn.ex) 17) Cn.ex.length) 8 = (0, 0) := by decide
theorem ex_wordN : wAt (wsOf (seq (rowsL Cn.ex) 17) Cn.ex.length) (-1) = (0, 0) := by decide
/-- A part that has come, in order. -/
def Pre (l : List Int) (pre : List (Em (rowsL l))) : Prop := ∃ t, seq (rowsL l) 17 = pre.map Em.x ++ t
theorem map_cth {β : Type} (cs : List Cd) (f : Cd → β) (g : It → β) (xs : List It) (h : cs.map f = xs.map g) (i : Nat) (hi : i < cs.length) : i < xs.length ∧ f (cth cs i) = g (xs.getD i default) := by
  have hl : cs.length = xs.length := by have := congrArg List.length h; simpa using this
  have e : (cs.map f)[i]'(by simpa using hi) = (xs.map g)[i]'(by simp; omega) := by simp only [h]
  rw [List.getElem_map, List.getElem_map] at e
  exact ⟨by omega, by simpa [cth, List.getD, List.getElem?_eq_getElem hi, List.getElem?_eq_getElem (show i < xs.length by omega)] using e⟩
theorem pre_at (l : List Int) (pre : List (Em (rowsL l))) (x : Em (rowsL l)) (h : Pre l (pre ++ [x])) : (seq (rowsL l) 17).getD pre.length default = x.x := by
  obtain ⟨t, ht⟩ := h
  rw [List.map_append, List.append_assoc] at ht
  have : (seq (rowsL l) 17)[pre.length]? = some x.x := by
    rw [ht, List.getElem?_append_right (by simp)]; simp
  simp [List.getD, this]
theorem pre_le (l : List Int) (pre : List (Em (rowsL l))) (h : Pre l pre) : pre.length ≤ (seq (rowsL l) 17).length := by
  obtain ⟨t, ht⟩ := h
  rw [ht, List.length_append, List.length_map]; omega
theorem wn_of (l : List Int) (x : It) (hx : x ∈ seq (rowsL l) 17) : (wAt (wsOf (seq (rowsL l) 17) l.length) ((x.s : Nat) : Int)).2 = x.n := by
  obtain ⟨h1, h2, h3⟩ := seq_len l x hx
  have h16 : x.n ≤ 16 := by
    obtain ⟨m, i, hm, _, rfl⟩ := (mem_seq _ _ _).1 hx
    show m ≤ 16; omega
  obtain ⟨m, i, hm, hi, e1, e2, e3⟩ := look_some l x.s h1 ⟨by omega, by omega⟩
  unfold wAt
  rw [if_pos (by omega), Int.toNat_natCast]
  have e : (wsOf (seq (rowsL l) 17) l.length).getD x.s (0, 0) = Bk.look (seq (rowsL l) 17) x.s := by simp [wsOf, List.getD, List.getElem?_range h1]
  rw [e, e3]
  show m = x.n
  omega
theorem keeps_below {B : Nat} {A A' : World} (h : Below A.heap.size A A') : KeepsFrom B A A' := ⟨h.size, fun k o _ hk _ => (h.block k (Array.getElem?_eq_some_iff.1 hk).1).trans hk⟩
theorem kc_below {U : Nat → Prop} {A A' : World} (h : Below A.heap.size A A') : Kc U A A' := fun k o hk _ _ => (h.block k (Array.getElem?_eq_some_iff.1 hk).1).trans hk
theorem res_bool (fn : Func) (hf : fn.results = #[.cell 4 4]) (tmps : Array Value) (w : World) (g : Nat) (b : Bool) (hp : tmps.getD 4 undef = .pointer (some ⟨g, 0, none⟩)) (hc : w.cell? ⟨g, 0, none⟩ = some (.bool b)) : (results fn tmps).run Try.prog w = .ok (.bool b) w := by
  have hp' : tmps[4]?.getD undef = .pointer (some ⟨g, 0, none⟩) := by simpa using hp
  have hu := run_underlying Try.underlying4 w
  simp [results, hf, hp', asAddr, loadVar, isAgg, Sem.run_bind, hu, Result.andThen, hc, go_sem]
/-- The last symbol that has come. -/
def lastv {R : Nat → List Nat} (pre : List (Em R)) : Int := match pre.getLast? with | none => -1 | some x => (x.x.s : Int)
theorem lastv_snoc {R : Nat → List Nat} (pre : List (Em R)) (x : Em R) : lastv (pre ++ [x]) = (x.x.s : Int) := by simp [lastv]
theorem ex_head (x : Em (rowsL Cn.ex)) (h : Pre Cn.ex [x]) : x.x.s = 5 ∧ x.x.n = 2 := by
  obtain ⟨t, ht⟩ := h
  have e : (seq (rowsL Cn.ex) 17).head? = some x.x := by rw [ht]; rfl
  have e2 : ((seq (rowsL Cn.ex) 17).head?.map fun y => (y.s, y.n)) = some (5, 2) := by decide +kernel
  rw [e] at e2
  simp at e2
  exact e2
theorem ex_last (ys : List (Em (rowsL Cn.ex))) (h : ys.map Em.x = seq (rowsL Cn.ex) 17) : lastv ys = 7 := by
  have e2 : ((seq (rowsL Cn.ex) 17).getLast?.map fun y => y.s) = some 7 := by decide +kernel
  rw [← h, List.getLast?_map] at e2
  unfold lastv
  cases hq : ys.getLast? with
  | none => rw [hq] at e2; simp at e2
  | some x => rw [hq] at e2; simp at e2; simp [e2]
def TwoBooks (w2 : World) (B : Nat) (l : List Int) (p : Option Addr) (er : Value) : Prop :=
  (Cn.freeB l = true ∧ ∃ (g : Nat) (fs : Nat → Int) (vs : Nat → Value) (wv : Value), p = some ⟨g, 0, none⟩ ∧ er = .nilIface ∧ (∀ n, n < 17 → fs n = (fst (rowsL l) n : Nat)) ∧ NB w2 B g fs vs wv (nx (rowsL l) 17 : Nat) (rowsL l) (wsOf (seq (rowsL l) 17) l.length)) ∨ (p = none ∧ er = .iface 35 (.int .i64 6))
set_option maxRecDepth 100000 in
set_option maxHeartbeats 4000000 in
theorem walk (a : Option Addr) (len cap : Nat) (l : List Int) (t : Int) (w : World) (h : Is .i64 w a len cap l) (hr : cap * 8 ≤ 140737488351232) (hw : (Lit.int .i64 t).wf = true) :
    Calls Try.prog 8 #[.slice a len cap, .int .i64 t] w fun e w' => e = .returned (.bool true) ∧ Below w.heap.size w w' := by
  have hle := h.hle
  have HL := Lib.hid h.hlen
  have H := Lib.hid h
  have HW := Lib.hid hw
  clear h hw
  refine (callsIn_wide (n := 4)).1 ?_
  have hro : (Fence.wide).round = none := rfl
  refine callsIn_of_wp_marks Try.func8 rfl trivial ?_ hro
  simp only [Try.ntmps8, List.size_toArray, List.length_cons, List.length_nil, Nat.reduceAdd, Nat.reduceSub, Array.replicate_succ, Array.replicate_zero, List.push_toArray, List.append_toArray, List.nil_append, List.cons_append]
  by_cases hbig : 600 < len
  · have d1 : decide ((600 : Int) < ↑len) = true := by simp; omega
    gi_wp2
    exact ⟨_, res_bool Try.f8 rfl _ _ (w.heap.size + 1) true rfl (by rw [cell_of_row _ _ _ _ 4 (0, 0) (heap_alloc2_new w _ _)]; rfl), rfl, by exact below_alloc2 w _ _⟩
  have d1 : decide ((600 : Int) < ↑len) = false := by simp; omega
  gi_wp2_with fail
  have hb0 := below_alloc2 w (.cells #[.int .i64 t] 3) (.cells #[.bool false] 4)
  have h30 : Boxed ((w.alloc (.cells #[.int .i64 t] 3)).alloc (.cells #[.bool false] 4)) w.heap.size 3 (.int .i64 t) := heap_alloc2_old _ _ _
  have h40 : Boxed ((w.alloc (.cells #[.int .i64 t] 3)).alloc (.cells #[.bool false] 4)) (w.heap.size + 1) 4 (.bool false) := heap_alloc2_new _ _ _
  revert hb0 h30 h40
  generalize (w.alloc (.cells #[.int .i64 t] 3)).alloc (.cells #[.bool false] 4) = V0
  intro hb0 h30 h40
  refine ⟨trivial, (callsIn_wide.2 (book_low a len cap l V0 (H.out.mono hb0) (by omega))).mono ?_⟩
  intro e w2 hpost
  have hpost2 : ∃ p er, e = .returned (.tuple #[.pointer p, er]) ∧ TwoBooks w2 V0.heap.size l p er ∧ Below V0.heap.size V0 w2 := by
    rcases hpost with ⟨hf, g, fs, vs, wv, rfl, hfs, hnb, hb⟩ | ⟨hf, rfl, hb⟩
    · exact ⟨_, _, rfl, .inl ⟨hf, g, fs, vs, wv, rfl, rfl, hfs, hnb⟩, hb⟩
    · exact ⟨_, _, rfl, .inr ⟨rfl, rfl⟩, hb⟩
  obtain ⟨p, er, rfl, htb, hb2⟩ := hpost2
  clear hpost
  have HTB := Lib.hid htb
  have HB2 := Lib.hid (below_then hb0 hb2)
  have H32 := Lib.hid ((hb2.block _ h30.lt).trans h30)
  have H42 := Lib.hid ((hb2.block _ h40.lt).trans h40)
  have HV0 : Hid (w.heap.size + 1 < V0.heap.size) := Lib.hid h40.lt
  have HZ2 := Lib.hid hb2.size
  clear htb hb2 hb0 h30 h40 HZ2
  gi_wp2_with fail
  have hb3 := below_alloc w2 (.cells #[.pointer p] 50)
  have HB3 := Lib.hid (below_then HB2.out hb3)
  refine ⟨trivial, (callsIn_wide.2 (example_any _)).mono ?_⟩
  rintro e w3 ⟨ea, ec, rfl, hex, hb4, _⟩
  gi_wp2_with fail
  refine ⟨trivial, (callsIn_wide.2 (book_any ea 8 ec Cn.ex _ hex (by omega))).mono ?_⟩
  rintro e w4 (⟨_, g4, rfl, hbk, hb5, _⟩ | ⟨hf, _⟩)
  rotate_left
  · rw [ex_free] at hf; cases hf
  have hb25 : Below w2.heap.size w2 w4 := (hb3.trans ((below_then hb4 hb5).mono hb3.size))
  have H54 : Hid (Boxed w4 w2.heap.size 50 (.pointer p)) := Lib.hid (((below_then hb4 hb5).block w2.heap.size (by simp)).trans (World.alloc_heap_new w2 _))
  have HBK := Lib.hid hbk
  have HB24 := Lib.hid hb25
  clear hbk hb4 hb5 hb25 hb3 hex
  have hwl := length_any w4 _ g4 _ _ HBK.out (by rw [wsOf_length]; decide) 5
  rw [ex_word5] at hwl
  gi_wp2_with fail
  refine ⟨trivial, (callsIn_wide.2 hwl).mono ?_⟩
  rintro e w5 ⟨rfl, hb6⟩
  have HB25 := Lib.hid (below_then HB24.out hb6)
  have HE5 := Lib.hid (HBK.out.mono hb6)
  have H55 : Hid (Boxed w5 w2.heap.size 50 (.pointer p)) := Lib.hid ((hb6.block _ H54.out.lt).trans H54.out)
  have HZ5 := Lib.hid (Nat.lt_of_lt_of_le H54.out.lt hb6.size)
  clear hb6 HB24 HBK H54 hwl
  gi_wp2_with fail
  refine ⟨trivial, (all_in Fence.wide 3 trivial rfl (.pointer (some ⟨g4, 0, none⟩)) _ (.inr ⟨_, rfl⟩)).mono ?_⟩
  rintro e w' ⟨rfl, rfl⟩
  gi_wp2
  have hb7 := below_alloc2 w5 (.cells #[.int .i64 (-1)] 3) (.cells #[.pointer (some ⟨g4, 0, none⟩)] 50)
  have h9 : Boxed ((w5.alloc (.cells #[.int .i64 (-1)] 3)).alloc (.cells #[.pointer (some ⟨g4, 0, none⟩)] 50)) w5.heap.size 3 (.int .i64 (-1)) := heap_alloc2_old _ _ _
  have hx9 : Boxed ((w5.alloc (.cells #[.int .i64 (-1)] 3)).alloc (.cells #[.pointer (some ⟨g4, 0, none⟩)] 50)) (w5.heap.size + 1) 50 (.pointer (some ⟨g4, 0, none⟩)) := heap_alloc2_new _ _ _
  revert hb7 h9 hx9
  generalize (w5.alloc (.cells #[.int .i64 (-1)] 3)).alloc (.cells #[.pointer (some ⟨g4, 0, none⟩)] 50) = W6
  intro hb7 h9 hx9
  obtain ⟨B4, fs4, vs4, wv4, hfs4, hnb4⟩ := HE5.out.nb
  have hG4 := good_of Cn.ex ex_free
  have hnb6 := hnb4.mono hb7
  have h4lt := HE5.out.size
  have hit := all_iter (w5.heap.size + 1) g4 B4 (fun k => k = w5.heap.size) fs4 vs4 wv4 (nx (rowsL Cn.ex) 17 : Nat) (rowsL Cn.ex) hfs4
    (fun n hn => by have h1 := code_lt (rowsL Cn.ex) hG4 n (rowsL Cn.ex n).length (by omega) (Nat.le_refl _); have h2 : (2 : Nat) ^ n ≤ 2 ^ 16 := Nat.pow_le_pow_right (by omega) (by omega); omega)
    (fun k hk he => by obtain ⟨n, hn, hk⟩ := hk; have := ((hnb4.rows n hn).lt k hk).2; omega) W6 hx9.cell hx9.lt hnb6.blk hnb6.rows (fun k hk => by rw [hk]; exact h9.lt)
  have HB6 := Lib.hid (below_then HB2.out (HB25.out.trans (hb7.mono HB25.out.size)))
  have HE6 := Lib.hid (HE5.out.mono hb7)
  have H36 : Hid (Boxed W6 w.heap.size 3 (.int .i64 t)) := Lib.hid (by
    have h := HB25.out.trans (hb7.mono HB25.out.size)
    exact (h.block _ (Array.getElem?_eq_some_iff.1 H32.out).1).trans H32.out)
  have H46 : Hid (Boxed W6 (w.heap.size + 1) 4 (.bool false)) := Lib.hid (by
    have h := HB25.out.trans (hb7.mono HB25.out.size)
    exact (h.block _ (Array.getElem?_eq_some_iff.1 H42.out).1).trans H42.out)
  have H56 : Hid (Boxed W6 w2.heap.size 50 (.pointer p)) := Lib.hid ((hb7.block _ H55.out.lt).trans H55.out)
  have HC4 : Hid (w.heap.size + 1 < w2.heap.size) := Lib.hid (Array.getElem?_eq_some_iff.1 H42.out).1
  have HTB6 : Hid (Below w2.heap.size w2 W6) := Lib.hid (HB25.out.trans (hb7.mono HB25.out.size))
  have HZ9 := Lib.hid h9.lt
  have HZ45 := Lib.hid h4lt
  clear hb7 hnb6 hnb4 hfs4 hG4 h4lt hx9 HE5 H32 H42 H55 HB2 HB3 HB25
  apply range_iterO (F := Fence.wide) (n := 4) (P := Try.prog) (gf := 53) (lb := #[.pointer (some ⟨w5.heap.size + 1, 0, none⟩)]) (encs := Em.pair (R := rowsL Cn.ex)) (hseq := hit)
    (I := fun pre W => Below w5.heap.size W6 W ∧ Boxed W w5.heap.size 3 (.int .i64 (lastv pre))) (Ix := fun c pre _ => c = .ret ∧ ¬ Pre Cn.ex pre)
  case has =>
    intro k x A K hK
    simp only [Em.pair]
    gi_wp2
    exact hK
  case hro => exact hro
  case h1 => omega
  case hg => rfl
  case hF => trivial
  case eg => exact enters_of Try.func53 (by kernel_rfl) rfl
  case hKt => exact fun h1 h2 => h1.trans h2
  case hKb => exact fun W l o o' hl hc => Kc.put W l o o' hl hc
  case hps => exact fun _ => rfl
  case hI =>
    rintro s A C row ⟨h1, h2⟩ hg hr
    exact ⟨h1.grown hg (Nat.le_trans (Nat.le_of_lt HZ9.out) h1.size) (fun r e => Nat.le_trans (Nat.le_of_lt HZ9.out) (hr r e).1), kc_cells hg (fun r e => (hr r e).2) _ _ h2 rfl (fun h => h)⟩
  case hX => exact fun c s A C row hs _ _ => hs
  case h0 => exact ⟨Below.refl _ _, h9⟩
  case hbo =>
    rintro k pre x A ⟨h1, h2⟩ hlen
    have h4 : Boxed A (w.heap.size + 1) 4 (.bool false) := (h1.block _ (by have := HC4.out; have := HZ5.out; omega)).trans H46.out
    have c4 := h4.cell
    have f4 := h4.frozen
    have c9 := h2.cell
    have f9 := h2.frozen
    have HN : Hid (KeepsFrom W6.heap.size A (A.setCell ⟨w5.heap.size, 0, none⟩ (.int .i64 (x.x.s : Nat))) ∧ Kc (fun k => k = w5.heap.size) A (A.setCell ⟨w5.heap.size, 0, none⟩ (.int .i64 (x.x.s : Nat))) ∧ Below w5.heap.size W6 (A.setCell ⟨w5.heap.size, 0, none⟩ (.int .i64 (x.x.s : Nat))) ∧ Boxed (A.setCell ⟨w5.heap.size, 0, none⟩ (.int .i64 (x.x.s : Nat))) w5.heap.size 3 (.int .i64 (lastv (pre ++ [x])))) :=
      Lib.hid ⟨(KeepsOthers.setCell A _ _).from _, Kc.set (U := fun k => k = w5.heap.size) A ⟨w5.heap.size, 0, none⟩ rfl _, h1.setCell (p := ⟨w5.heap.size, 0, none⟩) (Nat.le_refl _) _, by rw [lastv_snoc]; exact h2.set _⟩
    have HF : Hid (KeepsFrom W6.heap.size A (A.setCell ⟨w.heap.size + 1, 0, none⟩ (.bool false))) := Lib.hid ((KeepsOthers.setCell A _ _).from _)
    clear h1 h2 h4 hlen hit h9
    by_cases hp : pre = []
    · subst hp
      have e9 : lastv ([] : List (Em (rowsL Cn.ex))) = -1 := rfl
      rw [e9] at c9
      have HX := Lib.hid (ex_head x)
      clear e9
      generalize x.x.s = xs at *
      generalize x.x.n = xn at *
      by_cases hs : xs = 5
      · subst hs
        by_cases hn : xn = 2
        · subst hn
          gi_wp2
          exact HN.out
        · have hno := Lib.hid (show ¬ Pre Cn.ex ([] ++ [x]) from fun h => hn (HX.out h).2)
          have d2 : (((xn : Nat) : Int) != 2) = true := by simp; omega
          have d3 : (((xn : Nat) : Int) == 2) = false := by simp; omega
          clear hn
          gi_wp2
          exact ⟨HF.out, rfl, hno.out⟩
      · have hno := Lib.hid (show ¬ Pre Cn.ex ([] ++ [x]) from fun h => hs (HX.out h).1)
        have d2 : (((xs : Nat) : Int) != 5) = true := by simp; omega
        have d3 : (((xs : Nat) : Int) == 5) = false := by simp; omega
        clear hs
        gi_wp2
        exact ⟨HF.out, rfl, hno.out⟩
    · obtain ⟨z, hz⟩ : ∃ z : Nat, lastv pre = (z : Int) := by
        unfold lastv
        cases hq : pre.getLast? with
        | none => exact absurd (List.getLast?_eq_none_iff.1 hq) hp
        | some y => exact ⟨_, rfl⟩
      rw [hz] at c9
      have d9 : decide ((z : Int) < 0) = false := by simp
      clear hz hp
      generalize x.x.s = xs at *
      generalize x.x.n = xn at *
      gi_wp2
      exact HN.out
  case hout =>
    rintro c pre W hSp ⟨rfl, hn⟩ hK
    exact absurd hSp hn
  case hend =>
    rintro ys W hS ⟨h1, h2⟩ hK
    rw [ex_last ys hS] at h2
    have hw5 : w.heap.size ≤ w5.heap.size := by have := HC4.out; have := HZ5.out; omega
    have HBW := Lib.hid (HB6.out.trans (h1.mono hw5))
    have h3 : Boxed W w.heap.size 3 (.int .i64 t) := (h1.block _ (by have := HC4.out; have := HZ5.out; omega)).trans H36.out
    have h4 : Boxed W (w.heap.size + 1) 4 (.bool false) := (h1.block _ (by have := HC4.out; have := HZ5.out; omega)).trans H46.out
    have h5 : Boxed W w2.heap.size 50 (.pointer p) := (h1.block _ HZ5.out).trans H56.out
    have HEW := Lib.hid (HE6.out.below (h1.mono HZ45.out))
    have HW2 := Lib.hid (HTB6.out.trans (h1.mono (Nat.le_of_lt HZ5.out)))
    have c9 := h2.cell
    have H3 := Lib.hid h3
    have H4 := Lib.hid h4
    have H5 := Lib.hid h5
    have HK := Lib.hid hK
    have HD6 := Lib.hid HB6.out.size
    clear h1 h2 h3 h4 h5 hw5 hit h9 hS HB6 H36 H46 H56 HE6 HTB6 hK
    have hwl := length_any W _ g4 _ _ HEW.out (by rw [wsOf_length]; decide) (-1)
    rw [ex_wordN] at hwl
    gi_wp2_with fail
    refine ⟨trivial, (callsIn_wide.2 hwl).mono ?_⟩
    rintro e V1 ⟨rfl, hv1⟩
    have hwl := length_any V1 _ g4 _ _ (HEW.out.mono hv1) (by rw [wsOf_length]; decide) 8
    rw [ex_word8] at hwl
    gi_wp2_with fail
    refine ⟨trivial, (callsIn_wide.2 hwl).mono ?_⟩
    rintro e V2 ⟨rfl, hv2⟩
    have HV2 := Lib.hid (below_then hv1 hv2)
    have h3 : Boxed V2 w.heap.size 3 (.int .i64 t) := (HV2.out.block _ H3.out.lt).trans H3.out
    have h4 : Boxed V2 (w.heap.size + 1) 4 (.bool false) := (HV2.out.block _ H4.out.lt).trans H4.out
    have h5 : Boxed V2 w2.heap.size 50 (.pointer p) := (HV2.out.block _ H5.out.lt).trans H5.out
    have c3 := h3.cell
    have f3 := h3.frozen
    have c4 := h4.cell
    have f4 := h4.frozen
    have c5 := h5.cell
    clear hv1 hv2 hwl HEW c9
    rcases HTB.out with ⟨hf, g2, fs2, vs2, wv2, rfl, rfl, hfs2, hnb2⟩ | ⟨rfl, rfl⟩
    rotate_left
    · have hD : (V2.setCell ⟨w.heap.size + 1, 0, none⟩ (.bool true)).heap[W6.heap.size]? = some (.deferred (some [])) := by
        rw [heap_setCell_other V2 ⟨w.heap.size + 1, 0, none⟩ W6.heap.size (.bool true) (by show W6.heap.size ≠ w.heap.size + 1; have := HC4.out; have := HZ5.out; have := HZ9.out; omega)]
        exact (HV2.out.block _ (Array.getElem?_eq_some_iff.1 HK.out).1).trans HK.out
      have h4b := h4.set (.bool true)
      have HP : Hid (Below w.heap.size w ((V2.setCell ⟨w.heap.size + 1, 0, none⟩ (.bool true)).putObj W6.heap.size (.deferred none)) ∧ ((V2.setCell ⟨w.heap.size + 1, 0, none⟩ (.bool true)).putObj W6.heap.size (.deferred none)).cell? ⟨w.heap.size + 1, 0, none⟩ = some (.bool true)) := Lib.hid (by
        have hb := (below_then HBW.out HV2.out).setCell (p := ⟨w.heap.size + 1, 0, none⟩) (by show w.heap.size ≤ w.heap.size + 1; omega) (.bool true)
        refine ⟨hb.grown (grownBy_putObj' _ _ (.deferred none)) hb.size (fun r e => by cases e; exact HD6.out), ?_⟩
        have := h4b.kept (grownBy_putObj' _ W6.heap.size (.deferred none)) (by simp; have := HC4.out; have := HZ5.out; have := HZ9.out; omega)
        exact this.cell)
      clear h3 h4 h5 h4b
      gi_wp2
      refine ⟨by simp, .inl ⟨_, _, rfl, run_takeDeferred hD, ?_⟩⟩
      exact ⟨_, res_bool Try.f8 rfl _ _ (w.heap.size + 1) true rfl HP.out.2, rfl, by exact HP.out.1⟩
    have HF := Lib.hid hf
    have hl5 : len ≤ 512 := by
      have h1 := hf
      simp only [Cn.freeB, Cn.formB, Bool.and_eq_true, decide_eq_true_eq] at h1
      have := h1.1.1; rw [HL.out] at this; exact this
    obtain ⟨N, hN1, hN2, hN⟩ : ∃ N : Nat, 1 ≤ N ∧ N ≤ 40 ∧ wrap64 (1 + wrap64 ((IntKind.u64.wrap t).tmod 40)) = (N : Int) := by
      have h0 : 0 ≤ IntKind.u64.wrap t := by
        show 0 ≤ t % (2 ^ 64 : Int)
        exact Int.emod_nonneg _ (by decide)
      have h1 := Int.tmod_nonneg 40 h0
      have h2 := Int.tmod_lt_of_pos (IntKind.u64.wrap t) (show (0 : Int) < 40 by decide)
      generalize (IntKind.u64.wrap t).tmod 40 = r at *
      obtain ⟨m, rfl⟩ := Int.eq_ofNat_of_zero_le h1
      refine ⟨m + 1, by omega, by omega, ?_⟩
      have e1 : wrap64 ((m : Nat) : Int) = (m : Int) := IntWalk.wrap64_in _ ⟨by omega, by omega⟩
      have e2 : wrap64 (1 + ((m : Nat) : Int)) = 1 + (m : Int) := IntWalk.wrap64_in _ ⟨by omega, by omega⟩
      rw [e1, e2]; omega
    have ch3 : Ch V2 (V2.setCell ⟨w.heap.size, 0, none⟩ (.int .i64 (N : Nat))) (fun k => k = w.heap.size) := (Ch.refl V2 (fun k => k = w.heap.size)).set (.inl rfl) _
    have hnbV := (hnb2.mono (HW2.out.trans (HV2.out.mono HW2.out.size))).kept ch3 (fun e => by have := hnb2.hg; have := HV0.out; omega) (fun k hk e => by have := (hnb2.words.lt k hk).1; have := HV0.out; omega) (fun k hk e => by
      obtain ⟨n, hn, hk⟩ := hk
      have := ((hnb2.rows n hn).lt k hk).1
      have := HV0.out
      omega)
    have HNB := Lib.hid hnbV
    have HFS := Lib.hid hfs2
    have h3b := h3.set (.int .i64 (N : Nat))
    have h4b := h4.other (B' := w.heap.size) (by omega) (.int .i64 (N : Nat))
    have h5b := h5.other (B' := w.heap.size) (by have := HC4.out; omega) (.int .i64 (N : Nat))
    have hbV := (below_then HBW.out HV2.out).setCell (p := ⟨w.heap.size, 0, none⟩) (Nat.le_refl _) (.int .i64 (N : Nat))
    have hD : (V2.setCell ⟨w.heap.size, 0, none⟩ (.int .i64 (N : Nat))).heap[W6.heap.size]? = some (.deferred (some [])) := by
      rw [heap_setCell_other V2 ⟨w.heap.size, 0, none⟩ W6.heap.size _ (by show W6.heap.size ≠ w.heap.size; have := HC4.out; have := HZ5.out; have := HZ9.out; omega)]
      exact (HV2.out.block _ (Array.getElem?_eq_some_iff.1 HK.out).1).trans HK.out
    clear hf hnbV hnb2 hfs2 h3 h4 h5 c4 f4 c5 ch3
    gi_wp2_with fail
    rw [hN]
    clear c3 f3 hN
    revert h3b h4b h5b hbV hD HNB
    generalize V2.setCell ⟨w.heap.size, 0, none⟩ (.int .i64 (N : Nat)) = V3
    intro HNB h3 h4 h5 hbV hD
    refine ⟨trivial, (callsIn_wide.2 (refCodes_any a len cap l V3 (H.out.mono hbV) hl5)).mono ?_⟩
    rintro e w10 ⟨v10, n10, cs, rfl, hcd, hs1, hs2, hb10⟩
    rw [syms_of] at hs1
    rw [codes_of l HF.out] at hs2
    obtain ⟨va, vc, rfl, _⟩ := hcd.cells
    have hn10 : n10 = (seq (rowsL l) 17).length := by have := congrArg List.length hs1; rw [List.length_map, List.length_map, hcd.hn] at this; exact this
    have HN10 := Lib.hid hn10
    clear hn10
    have HCD := Lib.hid hcd
    have HS1 := Lib.hid hs1
    have HS2 := Lib.hid hs2
    have H3 := Lib.hid ((hb10.block _ h3.lt).trans h3)
    have H4 := Lib.hid ((hb10.block _ h4.lt).trans h4)
    have h5c : Boxed w10 w2.heap.size 50 (.pointer (some ⟨g2, 0, none⟩)) := (hb10.block _ h5.lt).trans h5
    have HD := Lib.hid ((hb10.block _ (Array.getElem?_eq_some_iff.1 hD).1).trans hD)
    have HB10 := Lib.hid (below_then hbV hb10)
    have HNB2 := Lib.hid (HNB.out.mono hb10)
    clear hcd hs1 hs2 h3 h4 h5 hD hb10 hbV HNB
    have c5 : ((w10.alloc (.cells #[.slice va n10 vc] 36)).alloc (.cells #[.int .i64 0] 3)).cell? ⟨w2.heap.size, 0, none⟩ = some (.pointer (some ⟨g2, 0, none⟩)) := ((h5c.alloc _).alloc _).cell
    gi_wp2_with fail
    clear c5
    have hb11 := below_alloc2 w10 (.cells #[.slice va n10 vc] 36) (.cells #[.int .i64 0] 3)
    have h12 : Boxed ((w10.alloc (.cells #[.slice va n10 vc] 36)).alloc (.cells #[.int .i64 0] 3)) w10.heap.size 36 (.slice va n10 vc) := heap_alloc2_old _ _ _
    have h13 : Boxed ((w10.alloc (.cells #[.slice va n10 vc] 36)).alloc (.cells #[.int .i64 0] 3)) (w10.heap.size + 1) 3 (.int .i64 0) := heap_alloc2_new _ _ _
    revert hb11 h12 h13
    generalize (w10.alloc (.cells #[.slice va n10 vc] 36)).alloc (.cells #[.int .i64 0] 3) = W11
    intro hb11 h12 h13
    refine ⟨trivial, (all_in Fence.wide 3 trivial rfl (.pointer (some ⟨g2, 0, none⟩)) W11 (.inr ⟨_, rfl⟩)).mono ?_⟩
    rintro e w' ⟨rfl, rfl⟩
    gi_wp2
    have hb12 := below_alloc W11 (.cells #[.pointer (some ⟨g2, 0, none⟩)] 50)
    have hx12 : Boxed (W11.alloc (.cells #[.pointer (some ⟨g2, 0, none⟩)] 50)) W11.heap.size 50 (.pointer (some ⟨g2, 0, none⟩)) := World.alloc_heap_new _ _
    have h12b := h12.alloc (.cells #[.pointer (some ⟨g2, 0, none⟩)] 50)
    have h13b := h13.alloc (.cells #[.pointer (some ⟨g2, 0, none⟩)] 50)
    clear h12 h13
    revert hb12 hx12 h12b h13b
    generalize W11.alloc (.cells #[.pointer (some ⟨g2, 0, none⟩)] 50) = W12
    intro hb12 hx12 h12 h13
    have hbz : Below w10.heap.size w10 W12 := hb11.trans (hb12.mono hb11.size)
    have HNB := Lib.hid (HNB2.out.mono hbz)
    have hG := good_of l HF.out
    have hit := all_iter W11.heap.size g2 V0.heap.size (fun k => k = w10.heap.size + 1) fs2 vs2 wv2 (nx (rowsL l) 17 : Nat) (rowsL l) HFS.out
      (fun n hn => by have h1 := code_lt (rowsL l) hG n (rowsL l n).length (by omega) (Nat.le_refl _); have h2 : (2 : Nat) ^ n ≤ 2 ^ 16 := Nat.pow_le_pow_right (by omega) (by omega); omega)
      (fun k hk he => by obtain ⟨n, hn, hk⟩ := hk; have := ((HNB2.out.rows n hn).lt k hk).2; omega) W12 hx12.cell hx12.lt HNB.out.blk HNB.out.rows (fun k hk => by rw [hk]; exact h13.lt)
    have HAW : Hid (∀ A, Below (w10.heap.size + 1) W12 A → Below w10.heap.size w10 A) := Lib.hid (fun A h => hbz.trans (h.mono (by omega)))
    have H3W : Hid (Boxed W12 w.heap.size 3 (.int .i64 (N : Nat))) := Lib.hid ((hbz.block _ (Array.getElem?_eq_some_iff.1 H3.out).1).trans H3.out)
    have H4W : Hid (Boxed W12 (w.heap.size + 1) 4 (.bool false)) := Lib.hid ((hbz.block _ (Array.getElem?_eq_some_iff.1 H4.out).1).trans H4.out)
    have H5W : Hid (Boxed W12 w2.heap.size 50 (.pointer (some ⟨g2, 0, none⟩))) := Lib.hid ((hbz.block _ h5c.lt).trans h5c)
    have HDW := Lib.hid ((hbz.block _ (Array.getElem?_eq_some_iff.1 HD.out).1).trans HD.out)
    have HBZ := Lib.hid (below_then HB10.out hbz)
    have HZC : Hid (w2.heap.size < w10.heap.size ∧ w.heap.size + 1 < w10.heap.size ∧ W6.heap.size < w10.heap.size) := Lib.hid ⟨h5c.lt, (Array.getElem?_eq_some_iff.1 H4.out).1, (Array.getElem?_eq_some_iff.1 HD.out).1⟩
    have H12 := Lib.hid h12
    have HZ13 := Lib.hid h13.lt
    clear hb11 hb12 hbz hx12 hG h5c h12 H3 H4 HD HB10 HNB
    apply range_iterO (F := Fence.wide) (n := 4) (P := Try.prog) (gf := 53) (lb := #[.pointer (some ⟨W11.heap.size, 0, none⟩)]) (encs := Em.pair (R := rowsL l)) (hseq := hit)
      (I := fun pre W => Below (w10.heap.size + 1) W12 W ∧ Boxed W (w10.heap.size + 1) 3 (.int .i64 (pre.length : Nat)) ∧ pre.length < N)
      (Ix := fun c pre W => (c = .ret ∧ ¬ Pre l pre) ∨ (c = .exit 2 ∧ pre.length = N ∧ Below (w10.heap.size + 1) W12 W ∧ Boxed W (w10.heap.size + 1) 3 (.int .i64 (N : Nat))))
    case has =>
      intro k x A K hK
      simp only [Em.pair]
      gi_wp2
      exact hK
    case hro => exact hro
    case h1 => omega
    case hg => rfl
    case hF => trivial
    case eg => exact enters_of Try.func53 (by kernel_rfl) rfl
    case hKt => exact fun h1 h2 => h1.trans h2
    case hKb => exact fun W l o o' hl hc => Kc.put W l o o' hl hc
    case hps => exact fun _ => rfl
    case hI =>
      rintro s A C row ⟨h1, h2, h3⟩ hg hr
      exact ⟨h1.grown hg (Nat.le_trans (Nat.le_of_lt HZ13.out) h1.size) (fun r e => Nat.le_trans (Nat.le_of_lt HZ13.out) (hr r e).1), kc_cells hg (fun r e => (hr r e).2) _ _ h2 rfl (fun h => h), h3⟩
    case hX =>
      rintro c s A C row (h | ⟨h0, h1, h2, h3⟩) hg hr
      · exact .inl h
      · exact .inr ⟨h0, h1, h2.grown hg (Nat.le_trans (Nat.le_of_lt HZ13.out) h2.size) (fun r e => Nat.le_trans (Nat.le_of_lt HZ13.out) (hr r e).1), kc_cells hg (fun r e => (hr r e).2) _ _ h3 rfl (fun h => h)⟩
    case h0 => exact ⟨Below.refl _ _, h13, by simp; omega⟩
    case hbo =>
      rintro k pre x A ⟨h1, h2, h3⟩ hlen
      have hi : pre.length < n10 := by rw [HN10.out]; exact hlen
      have hic : pre.length < cs.length := by rw [HCD.out.hn]; exact hi
      have hcA := HCD.out.mono (HAW.out A h1)
      obtain ⟨_, _, hv, hcl⟩ := hcA.cells
      simp only [Value.slice.injEq, true_and] at hv
      obtain ⟨rfl, rfl⟩ := hv
      obtain ⟨gc, rfl, c0, c1⟩ := hcl pre.length hi
      have e1 := (map_cth cs Cd.s (fun x => (x.s : Int)) _ HS1.out pre.length hic).2
      have e2 := (map_cth cs Cd.b It.bits _ HS2.out pre.length hic).2
      have e3 : (cth cs pre.length).len = ((seq (rowsL l) 17).getD pre.length default).n := by
        have h := (hcA.each pre.length hi).hlen
        rw [bi_length, e2, It.bits, Bt.dg_length] at h
        exact h.symm
      rw [e1] at c0
      rw [e3] at c1
      have HNO : Hid (x.x.s ≠ ((seq (rowsL l) 17).getD pre.length default).s ∨ x.x.n ≠ ((seq (rowsL l) 17).getD pre.length default).n → ¬ Pre l (pre ++ [x])) := Lib.hid (fun h hp => by
        have := pre_at l pre x hp
        rw [this] at h
        rcases h with h | h <;> exact h rfl)
      have hwl := length_any A _ g2 _ _ ((Book.of HNB2.out HFS.out).below (HAW.out A h1)) (by rw [wsOf_length, HL.out]; omega) ((x.x.s : Nat) : Int)
      rw [wn_of l x.x x.mem] at hwl
      have HWL := Lib.hid hwl
      have h4 : Boxed A (w.heap.size + 1) 4 (.bool false) := (h1.block _ (by have := HZC.out; omega)).trans H4W.out
      have hb3 : Boxed A w.heap.size 3 (.int .i64 (N : Nat)) := (h1.block _ (by have := HZC.out; omega)).trans H3W.out
      have hb5 : Boxed A w2.heap.size 50 (.pointer (some ⟨g2, 0, none⟩)) := (h1.block _ (by have := HZC.out; omega)).trans H5W.out
      have h12 := (h1.block w10.heap.size (by omega)).trans H12.out
      have c12 := Boxed.cell h12
      have c4 := h4.cell
      have f4 := h4.frozen
      have c5 := hb5.cell
      have c13 := h2.cell
      have HF4 : Hid (KeepsFrom W12.heap.size A (A.setCell ⟨w.heap.size + 1, 0, none⟩ (.bool false))) := Lib.hid ((KeepsOthers.setCell A _ _).from _)
      have HB1 := Lib.hid h1
      have HB2 := Lib.hid h2
      have HB3 := Lib.hid hb3
      have dg : decide (n10 ≤ pre.length) = false := decide_eq_false (by omega)
      clear hwl h1 h2 h4 hb3 hb5 h12 e1 e2 e3 hcl hcA hlen hit h13 hic
      generalize ((seq (rowsL l) 17).getD pre.length default).s = qs at *
      generalize ((seq (rowsL l) 17).getD pre.length default).n = qn at *
      generalize hpl : pre.length = i at *
      have HPL := Lib.hid hpl
      clear hpl
      generalize x.x.s = xs at *
      generalize x.x.n = xn at *
      by_cases hs : xs = qs
      · by_cases hn : xn = qn
        · subst hs
          subst hn
          clear HNO
          gi_wp2_with fail
          refine ⟨trivial, (callsIn_wide.2 HWL.out).mono ?_⟩
          rintro e A1 ⟨rfl, hb⟩
          have g13 : Boxed A1 (w10.heap.size + 1) 3 (.int .i64 (i : Nat)) := (hb.block _ HB2.out.lt).trans HB2.out
          have g3 : Boxed A1 w.heap.size 3 (.int .i64 (N : Nat)) := (hb.block _ HB3.out.lt).trans HB3.out
          have k3 := g3.cell
          have k13 := g13.cell
          have l13 := g13.frozen
          have k3b := (g3.other (B' := w10.heap.size + 1) (by have := HZC.out; omega) (.int .i64 ((i : Nat) + 1))).cell
          have HE : Hid (KeepsFrom W12.heap.size A (A1.setCell ⟨w10.heap.size + 1, 0, none⟩ (.int .i64 ((i : Nat) + 1))) ∧ Kc (fun k => k = w10.heap.size + 1) A (A1.setCell ⟨w10.heap.size + 1, 0, none⟩ (.int .i64 ((i : Nat) + 1))) ∧ Below (w10.heap.size + 1) W12 (A1.setCell ⟨w10.heap.size + 1, 0, none⟩ (.int .i64 ((i : Nat) + 1))) ∧ Boxed (A1.setCell ⟨w10.heap.size + 1, 0, none⟩ (.int .i64 ((i : Nat) + 1))) (w10.heap.size + 1) 3 (.int .i64 ((i : Nat) + 1))) :=
            Lib.hid ⟨(keeps_below hb).trans ((KeepsOthers.setCell A1 _ _).from _), (kc_below hb).trans (Kc.set (U := fun k => k = w10.heap.size + 1) A1 ⟨w10.heap.size + 1, 0, none⟩ rfl _), (HB1.out.trans (hb.mono (Nat.le_trans (Nat.le_of_lt HZ13.out) HB1.out.size))).setCell (p := ⟨w10.heap.size + 1, 0, none⟩) (Nat.le_refl _) _, g13.set _⟩
          clear hb g13 g3 HWL c0 c1 c12 c4 f4 c5 c13 dg
          by_cases hB : i + 1 = N
          · have d5 : (((i : Nat) : Int) + 1 == ((N : Nat) : Int)) = true := by simp; omega
            gi_wp2
            obtain ⟨q1, q2, q3, q4⟩ := HE.out
            exact ⟨q1, .inr ⟨rfl, by rw [List.length_append, HPL.out]; exact hB, q3, by rw [← hB]; exact q4⟩⟩
          · have d5 : (((i : Nat) : Int) + 1 == ((N : Nat) : Int)) = false := by simp; omega
            gi_wp2
            obtain ⟨q1, q2, q3, q4⟩ := HE.out
            exact ⟨q1, q2, q3, by rw [List.length_append, HPL.out]; exact q4, by rw [List.length_append, HPL.out]; simp; omega⟩
        · have hno := Lib.hid (HNO.out (.inr hn))
          subst hs
          have d5 : (((xn : Nat) : Int) == ((qn : Nat) : Int)) = false := by simp; omega
          have d6 : (((xn : Nat) : Int) != ((qn : Nat) : Int)) = true := by simp; omega
          have d7 : (xn == qn) = false := by simpa using hn
          clear HNO
          gi_wp2
          refine ⟨trivial, ?_⟩
          gi_wp2
          exact ⟨HF4.out, .inl ⟨rfl, hno.out⟩⟩
      · have hno := Lib.hid (HNO.out (.inl hs))
        have d5 : (((xs : Nat) : Int) == ((qs : Nat) : Int)) = false := by simp; omega
        have d6 : (((xs : Nat) : Int) != ((qs : Nat) : Int)) = true := by simp; omega
        have d7 : (xs == qs) = false := by simpa using hs
        clear HNO
        gi_wp2
        refine ⟨trivial, ?_⟩
        gi_wp2
        exact ⟨HF4.out, .inl ⟨rfl, hno.out⟩⟩
    case hout =>
      rintro c pre W hSp (⟨rfl, hn⟩ | ⟨rfl, hpn, h1, h2⟩) hK
      · exact absurd hSp hn
      have hpl := pre_le l pre hSp
      rw [hpn, ← HN10.out] at hpl
      have dm : min ((N : Nat) : Int) ((n10 : Nat) : Int) = (N : Nat) := by omega
      have h3 : Boxed W w.heap.size 3 (.int .i64 (N : Nat)) := (h1.block _ (by have := HZC.out; omega)).trans H3W.out
      have h4 : Boxed W (w.heap.size + 1) 4 (.bool false) := (h1.block _ (by have := HZC.out; omega)).trans H4W.out
      have h12 : Boxed W w10.heap.size 36 (.slice va n10 vc) := (h1.block w10.heap.size (by omega)).trans H12.out
      have hd1 : W.heap[W6.heap.size]? = some (.deferred (some [])) := (h1.block _ (by have := HZC.out; omega)).trans HDW.out
      have c3 := h3.cell
      have c4 := h4.cell
      have f4 := h4.frozen
      have c12 := h12.cell
      have c13 := h2.cell
      have HM : Hid (Marks w.heap.size [W12.heap.size, W6.heap.size] (W.setCell ⟨w.heap.size + 1, 0, none⟩ (.bool true))) := Lib.hid (by
        refine ⟨by simp; have := HZC.out; have := HZ13.out; omega, fun D hD => ?_⟩
        simp only [List.mem_cons, List.not_mem_nil, or_false] at hD
        rcases hD with rfl | rfl
        · exact ⟨HBZ.out.size, by rw [heap_setCell_other W ⟨w.heap.size + 1, 0, none⟩ W12.heap.size _ (by show W12.heap.size ≠ w.heap.size + 1; have := HZC.out; have := HZ13.out; omega)]; exact hK⟩
        · exact ⟨HD6.out, by rw [heap_setCell_other W ⟨w.heap.size + 1, 0, none⟩ W6.heap.size _ (by show W6.heap.size ≠ w.heap.size + 1; have := HC4.out; have := HZ5.out; have := HZ9.out; omega)]; exact hd1⟩)
      have HQ : Hid (Below w.heap.size w (W.setCell ⟨w.heap.size + 1, 0, none⟩ (.bool true)) ∧ Boxed (W.setCell ⟨w.heap.size + 1, 0, none⟩ (.bool true)) (w.heap.size + 1) 4 (.bool true)) := Lib.hid
        ⟨(HBZ.out.trans (h1.mono (by have := HZC.out; omega))).setCell (p := ⟨w.heap.size + 1, 0, none⟩) (by show w.heap.size ≤ w.heap.size + 1; omega) _, h4.set _⟩
      clear h1 h2 h3 h4 h12 hd1 hK hit h13
      gi_wp2
      refine leaves_marks (B := w.heap.size) (fun X => Below w.heap.size w X ∧ Boxed X (w.heap.size + 1) 4 (.bool true)) ?_ ?_ [W12.heap.size, W6.heap.size] _ HM.out HQ.out
      · rintro X D ⟨q1, q2⟩ hB hD
        exact ⟨q1.grown (grownBy_putObj' _ D (.deferred none)) q1.size (fun r e => by cases e; exact hB), q2.kept (grownBy_putObj' _ D (.deferred none)) (fun e => by cases e; rw [show X.heap[w.heap.size + 1]? = _ from q2] at hD; cases hD)⟩
      · rintro X ⟨q1, q2⟩
        exact ⟨_, res_bool Try.f8 rfl _ _ (w.heap.size + 1) true rfl q2.cell, rfl, q1⟩
    case hend =>
      rintro ys W hS ⟨h1, h2, h3⟩ hK
      have hyl : ys.length = n10 := by rw [HN10.out, ← hS, List.length_map]
      rw [hyl] at h2 h3
      have dm : min ((N : Nat) : Int) ((n10 : Nat) : Int) = (n10 : Nat) := by omega
      clear hS hyl
      have h3 : Boxed W w.heap.size 3 (.int .i64 (N : Nat)) := (h1.block _ (by have := HZC.out; omega)).trans H3W.out
      have h4 : Boxed W (w.heap.size + 1) 4 (.bool false) := (h1.block _ (by have := HZC.out; omega)).trans H4W.out
      have h12 : Boxed W w10.heap.size 36 (.slice va n10 vc) := (h1.block w10.heap.size (by omega)).trans H12.out
      have hd1 : W.heap[W6.heap.size]? = some (.deferred (some [])) := (h1.block _ (by have := HZC.out; omega)).trans HDW.out
      have c3 := h3.cell
      have c4 := h4.cell
      have f4 := h4.frozen
      have c12 := h12.cell
      have c13 := h2.cell
      have HM : Hid (Marks w.heap.size [W12.heap.size, W6.heap.size] (W.setCell ⟨w.heap.size + 1, 0, none⟩ (.bool true))) := Lib.hid (by
        refine ⟨by simp; have := HZC.out; have := HZ13.out; omega, fun D hD => ?_⟩
        simp only [List.mem_cons, List.not_mem_nil, or_false] at hD
        rcases hD with rfl | rfl
        · exact ⟨HBZ.out.size, by rw [heap_setCell_other W ⟨w.heap.size + 1, 0, none⟩ W12.heap.size _ (by show W12.heap.size ≠ w.heap.size + 1; have := HZC.out; have := HZ13.out; omega)]; exact hK⟩
        · exact ⟨HD6.out, by rw [heap_setCell_other W ⟨w.heap.size + 1, 0, none⟩ W6.heap.size _ (by show W6.heap.size ≠ w.heap.size + 1; have := HC4.out; have := HZ5.out; have := HZ9.out; omega)]; exact hd1⟩)
      have HQ : Hid (Below w.heap.size w (W.setCell ⟨w.heap.size + 1, 0, none⟩ (.bool true)) ∧ Boxed (W.setCell ⟨w.heap.size + 1, 0, none⟩ (.bool true)) (w.heap.size + 1) 4 (.bool true)) := Lib.hid
        ⟨(HBZ.out.trans (h1.mono (by have := HZC.out; omega))).setCell (p := ⟨w.heap.size + 1, 0, none⟩) (by show w.heap.size ≤ w.heap.size + 1; omega) _, h4.set _⟩
      clear h1 h2 h3 h4 h12 hd1 hK hit h13
      gi_wp2
      refine leaves_marks (B := w.heap.size) (fun X => Below w.heap.size w X ∧ Boxed X (w.heap.size + 1) 4 (.bool true)) ?_ ?_ [W12.heap.size, W6.heap.size] _ HM.out HQ.out
      · rintro X D ⟨q1, q2⟩ hB hD
        exact ⟨q1.grown (grownBy_putObj' _ D (.deferred none)) q1.size (fun r e => by cases e; exact hB), q2.kept (grownBy_putObj' _ D (.deferred none)) (fun e => by cases e; rw [show X.heap[w.heap.size + 1]? = _ from q2] at hD; cases hD)⟩
      · rintro X ⟨q1, q2⟩
        exact ⟨_, res_bool Try.f8 rfl _ _ (w.heap.size + 1) true rfl q2.cell, rfl, q1⟩
set_option maxRecDepth 100000 in
theorem lifted (os : Os) (started : os.Started) (H : Type) (enc : TypeId × Value → H) :
    ReturnsInHanded {} Try.checked os 8 .any (Rows.canonAllSpec.pre6 enc Try.prog Try.f8 Rows.canonAllRow.domain false) (Rows.canonAllSpec.post enc Try.prog Try.f8 false true false false) := by
  refine returnsInHanded_of_change_sized (C := Try.checked) own started (by kernel_rfl) Try.func8
    (ChangeSpec.witness6 (enc := enc) (C := Try.checked) false ⟨#[], #[.slice none 0 0, .int .i64 0], []⟩ 8 (by kernel_rfl) (by kernel_rfl) (by kernel_rfl) (by kernel_rfl)) ?_
  intro W base args ds gs before hval0 hW _ hsz0 _
  have hval : ∀ (j : Nat) t v, Try.f8.params[j]? = some t → args[j]? = some v → Value.okWide Try.prog W .any base t v := hval0
  have hsz : (DataW.weightsEach Try.prog (Try.f8.params.toList ++ Rows.canonAllSpec.plain.varTypes Try.prog) (ds ++ gs)).all (· ≤ reachBytes) = true := hsz0
  have hW' := hW
  obtain ⟨p, q, hA0, hV, rfl, hfz, hnd⟩ := hW
  have hA : DataW.TrodAll enc Try.prog W 0 (fun _ => true) true Try.f8.params.toList args.toList ds p := hA0
  rw [Try.params8] at hA hval hsz
  obtain ⟨v0, vs0, d0, ds0, p0, q0, hargs, rfl, rfl, h0, r0⟩ := trodAll_cons hA
  obtain ⟨v1, vs1, d1, ds1, p1, q1, rfl, rfl, rfl, h1, r1⟩ := trodAll_cons r0
  obtain ⟨rfl, rfl, rfl⟩ := trodAll_nil r1
  obtain rfl : args = #[v0, v1] := by cases args; simp_all
  obtain ⟨rfl, rfl⟩ := trodVars_none hV
  clear hsz0
  obtain ⟨a0, len0, cap0, rfl⟩ := okWide_slice Try.underlying22 (hval 0 22 v0 rfl rfl)
  have k0 := h0
  have lt0 : ∀ x ∈ p0, x.block < W.heap.size := by obtain ⟨m, hm⟩ := k0; exact DataW.trod_lt m _ _ _ hm
  obtain ⟨l0, w0, c0⟩ := open_is (by' := 8) Try.underlying22 Try.underlying3 (by kernel_rfl) (by kernel_rfl) h0 hsz 0 rfl rfl
  obtain ⟨a1, rfl, rfl, rfl, w1⟩ := open_int Try.underlying3 (hval 1 3 v1 rfl rfl) h1
  clear hA0 hval0 hsz
  refine (walk a0 len0 cap0 l0 a1 W w0 c0 w1).mono fun e W' ⟨he, bel⟩ => ?_
  subst he
  exact ⟨_, rfl, _, _, _, [], _, [], hW', trodAll_mk1 (shut_bool Try.underlying4 _), (trodAll_cons_mk (Below.trod laidOut (by kernel_rfl) (of_decide_eq_true (by kernel_rfl)) k0 bel lt0) (trodAll_cons_mk (shut_int Try.underlying3 w1) trodAll_mk0)), rfl, bel.frame _, fun h => by cases h⟩

theorem proved : Rows.CanonAllSaid :=
  OpenClaim.holds_of_wide 8 Try.f8 rfl rfl rfl rfl rfl rfl rfl ⟨rfl, rfl, rfl, rfl, rfl⟩ rfl rfl rfl rfl rfl (by kernel_rfl) Try.func8 (by kernel_rfl)
    (of_decide_eq_true (by kernel_rfl)) (by unfold Func.isWrapper; first | (rw [if_pos (by decide +kernel)]; kernel_rfl) | (rw [if_neg (by decide +kernel)]; exact ⟨rfl, rfl⟩))
    (fun os started H enc _ => lifted os started H enc)
#print axioms proved
end Go.Proofs.Ytnlbomijnldlmaa.CanonAll
