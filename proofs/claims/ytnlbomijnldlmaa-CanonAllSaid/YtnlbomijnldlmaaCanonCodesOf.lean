/- canon.Codes: its contract. -/
import Derived.Test.YtnlbomijnldlmaaBookOf
namespace Go.Proofs.Ytnlbomijnldlmaa
open Go.RowKit Go.Shelf
attribute [local go_sem] Oper.semAt_some
namespace Bk
/-- The codes by the symbol. -/
def csOf (xs : List It) (n : Nat) : List Int := (List.range n).map fun s => ((look xs s).1 : Int)
theorem csOf_length (xs : List It) (n : Nat) : (csOf xs n).length = n := by simp [csOf]
theorem csOf_nil (n : Nat) : csOf [] n = List.replicate n 0 := by
  rw [List.eq_replicate_iff]
  refine ⟨csOf_length _ _, fun b hb => ?_⟩
  simp only [csOf, List.mem_map] at hb
  obtain ⟨i, _, rfl⟩ := hb
  rfl
theorem csOf_set (xs : List It) (n : Nat) (x : It) : (csOf xs n).set x.s (x.c : Int) = csOf (xs ++ [x]) n := by
  apply List.ext_getElem?
  intro i
  rw [List.getElem?_set, csOf_length]
  by_cases hi : i < n
  · have e1 : (csOf xs n)[i]? = some ((look xs i).1 : Int) := by simp [csOf, List.getElem?_range hi]
    have e2 : (csOf (xs ++ [x]) n)[i]? = some ((look (xs ++ [x]) i).1 : Int) := by simp [csOf, List.getElem?_range hi]
    rw [e1, e2, look_snoc]
    by_cases h : x.s = i
    · rw [if_pos h, if_pos (by omega), if_pos h]
    · rw [if_neg h, if_neg h]
  · have e1 : (csOf xs n)[i]? = none := by rw [List.getElem?_eq_none]; rw [csOf_length]; omega
    have e2 : (csOf (xs ++ [x]) n)[i]? = none := by rw [List.getElem?_eq_none]; rw [csOf_length]; omega
    rw [e1, e2]
    split
    · rw [if_neg (by omega)]
    · rfl
def CodesPost (w : World) (l : List Int) (e : Ending) (w' : World) : Prop :=
  (Cn.freeB l = true ∧ ∃ v, e = .returned (.tuple #[v, .nilIface]) ∧ w'.ownsRow w.heap.size 3 1 v l.length (ivs (csOf (seq (rowsL l) 17) l.length)) ∧ Below w.heap.size w w') ∨
  (Cn.freeB l = false ∧ e = .returned (.tuple #[.slice none 0 0, .iface 35 (.int .i64 6)]) ∧ Below w.heap.size w w')
set_option maxRecDepth 100000 in
set_option maxHeartbeats 2000000 in
theorem codes_any (a : Option Addr) (len cap : Nat) (l : List Int) (w : World) (h : Is .i64 w a len cap l) (hr : len ≤ 140737488355328) :
    Calls Try.prog 10 #[.slice a len cap] w (CodesPost w l) := by
  have HL := Lib.hid h.hlen
  have H := Lib.hid h
  clear h
  refine (callsIn_wide (n := 3)).1 ?_
  have hro : (Fence.wide).round = none := rfl
  refine callsIn_of_wp_marks Try.func10 rfl trivial ?_ hro
  simp only [Try.ntmps10, List.size_toArray, List.length_cons, List.length_nil, Nat.reduceAdd, Nat.reduceSub, Array.replicate_succ, Array.replicate_zero, List.push_toArray, List.append_toArray, List.nil_append, List.cons_append]
  gi_wp2_with fail
  refine ⟨trivial, (callsIn_wide.2 (book_any a len cap l w H.out hr)).mono ?_⟩
  rintro e w1 (⟨hf, g, rfl, hbk, hb1, hg1⟩ | ⟨hf, rfl, hb1⟩)
  · have HF := Lib.hid hf
    have hl5 : len ≤ 512 := by
      simp only [Cn.freeB, Cn.formB, Bool.and_eq_true, decide_eq_true_eq] at hf
      have := hf.1.1; rw [HL.out] at this; exact this
    have HBK := Lib.hid hbk
    have HB1 := Lib.hid hb1
    clear hf hbk hg1
    have hz1 := hb1.size
    clear hb1
    gi_wp2_with (gi_at_make; refine wplIn_make_full tyI rfl _ _ rfl w.heap.size .i64 .i64 _ _ len rfl rfl rfl rfl (by omega) (by omega) hz1 ?_)
    intro w2 own2 hg2
    have hb2 : Below w1.heap.size w1 w2 := (Below.refl _ _).grown hg2 (Nat.le_refl _) (by simp)
    have own3 : w2.ownsRow w.heap.size 3 1 (.slice (some ⟨w1.heap.size, 0, none⟩) len len) len (ivs (csOf [] len)) := by
      rw [csOf_nil]
      have e := made_ints1 len
      rw [Nat.mul_one] at e
      rw [← e]; exact own2
    have HO := Lib.hid own3
    have HB2 := Lib.hid hb2
    clear own2 own3 hg2 hb2
    gi_wp2_with fail
    refine ⟨trivial, (inOrder_in Fence.wide 2 trivial rfl _ _ (.inr ⟨g, rfl⟩)).mono ?_⟩
    rintro e w' ⟨rfl, rfl⟩
    gi_wp2
    have hob : w1.heap.size < w2.heap.size := (HO.out.lt _ rfl).2
    have hb5 := below_alloc2 w2 (.cells #[.slice (some ⟨w1.heap.size, 0, none⟩) len len] 22) (.cells #[.pointer (some ⟨g, 0, none⟩)] 50)
    have hx5 : Boxed ((w2.alloc (.cells #[.slice (some ⟨w1.heap.size, 0, none⟩) len len] 22)).alloc (.cells #[.pointer (some ⟨g, 0, none⟩)] 50)) w2.heap.size 22 (.slice (some ⟨w1.heap.size, 0, none⟩) len len) := heap_alloc2_old _ _ _
    have hy5 : Boxed ((w2.alloc (.cells #[.slice (some ⟨w1.heap.size, 0, none⟩) len len] 22)).alloc (.cells #[.pointer (some ⟨g, 0, none⟩)] 50)) (w2.heap.size + 1) 50 (.pointer (some ⟨g, 0, none⟩)) := heap_alloc2_new _ _ _
    have hz5 : ((w2.alloc (.cells #[.slice (some ⟨w1.heap.size, 0, none⟩) len len] 22)).alloc (.cells #[.pointer (some ⟨g, 0, none⟩)] 50)).heap.size = w2.heap.size + 2 := by simp
    revert hb5 hx5 hy5 hz5
    generalize (w2.alloc (.cells #[.slice (some ⟨w1.heap.size, 0, none⟩) len len] 22)).alloc (.cells #[.pointer (some ⟨g, 0, none⟩)] 50) = W5
    intro hb5 hx5 hy5 hz5
    have HO5 := Lib.hid (own_below HO.out hb5)
    have hbw : Below w.heap.size w W5 := HB1.out.trans ((HB2.out.trans (hb5.mono (by omega))).mono hz1)
    have HBW := Lib.hid hbw
    have HBK5 := Lib.hid (HBK.out.below (HB2.out.trans (hb5.mono (by omega))))
    clear HO HBK HB1 HB2 hb5 hbw
    generalize w1.heap.size = ob at *
    generalize w2.heap.size = q2 at *
    obtain ⟨w0, B0, fs, vs, wv, hfs, hnb0, hob0, hbel0⟩ := HBK5.out
    have hnb := hnb0.mono (by rw [← hob0]; exact hbel0)
    have hG := good_of l HF.out
    have hTr : ∀ k, Tr vs k → k < ob := fun k ⟨n, hn, hk⟩ => by rw [hob0]; exact ((hnb0.rows n hn).lt k hk).2
    have hstp := inOrder_stops Fence.wide 2 trivial rfl (by omega) (q2 + 1) g B0 (fun k => k = ob) fs vs wv (nx (rowsL l) 17 : Nat) (rowsL l) hfs
      (fun n hn => by have h1 := code_lt (rowsL l) hG n (rowsL l n).length (by omega) (Nat.le_refl _); have h2 : (2 : Nat) ^ n ≤ 2 ^ 16 := Nat.pow_le_pow_right (by omega) (by omega); omega)
      (fun k hk he => by have := hTr k hk; omega) W5 hy5.cell hy5.lt hnb.blk hnb.rows (fun k hk => by omega)
    have HSQ : Hid (∀ x ∈ seq (rowsL l) 17, x.s < len) := Lib.hid (fun x hx => by rw [← HL.out]; exact (seq_len l x hx).1)
    clear hnb0 hbel0 hnb hfs hTr HBK5 hob0
    refine wpIn_rangeFunc_ownH rfl (by omega) (gf := 54) (lb := #[.pointer (some ⟨q2 + 1, 0, none⟩)]) rfl trivial (enters_of Try.func54 (by kernel_rfl) rfl)
      hstp ?hKt ?hKb (Below.refl _ _) (fun _ => rfl)
      (fun pre W => W.ownsRow w.heap.size 3 1 (.slice (some ⟨ob, 0, none⟩) len len) len (ivs (csOf (pre.map Em.x) len)) ∧ Below w.heap.size w W ∧ Boxed W q2 22 (.slice (some ⟨ob, 0, none⟩) len len) ∧ W5.heap.size ≤ W.heap.size)
      (fun _ _ _ => False) ?hI (fun _ _ _ _ _ hs _ _ => hs) ?h0
      (fun x a' W => ∃ Bx, W5.heap.size ≤ Bx ∧ W.heap[Bx]? = some (.cells #[.int .i64 (x.x.c : Nat), .int .i64 (x.x.n : Nat)] 81 (0, 0)) ∧ a' = { tmps := #[.slice a len cap, undef, .slice none 0 0, .nilIface, .pointer (some ⟨g, 0, none⟩), .nilIface, .pointer (some ⟨q2, 0, none⟩), .int .i64 (x.x.s : Nat), .pointer (some ⟨Bx, 0, none⟩),
          .tuple #[.pointer (some ⟨g, 0, none⟩), .nilIface], .slice a len cap, .tuple #[.pointer (some ⟨g, 0, none⟩), .nilIface], .pointer (some ⟨g, 0, none⟩), .nilIface, .nilIface, .bool false, undef, .slice a len cap, .int .i64 len,
          .slice (some ⟨ob, 0, none⟩) len len, .pointer (some ⟨g, 0, none⟩), .func (.func 54) #[] #[.pointer (some ⟨q2 + 1, 0, none⟩)], .int .i64 (x.x.s : Nat), .agg #[.int .i64 (x.x.c : Nat), .int .i64 (x.x.n : Nat)], undef, undef, undef, undef, undef, undef], defers := [] })
      ?hAx ?assign ?body ?done ?stop
    case hKt => exact fun h1 h2 => h1.trans h2
    case hKb => exact fun W l o o' _ hl hc _ => Kc.put W l o o' hl hc
    case hI =>
      rintro s A C row ⟨h1, h2, h3, h4⟩ hg hr
      have c := kc_cells hg (fun r e => (hr r e).2)
      exact ⟨own_kc h1 c (fun _ _ h => h), h2.grown hg h2.size (fun r e => by have := (hr r e).1; have := HBW.out.size; omega), c q2 _ h3 rfl (fun h => h), Nat.le_trans h4 hg.size⟩
    case h0 => exact ⟨HO5.out, HBW.out, hx5, Nat.le_refl _⟩
    case hAx =>
      rintro x a' s A C row ⟨Bx, h1, h2, h3⟩ hg hr
      exact ⟨Bx, h1, kc_cells hg (fun r e => (hr r e).2) Bx _ h2 rfl (fun h => h), h3⟩
    case assign =>
      rintro l' pre x W K ⟨h1, h2, h3, h4⟩ hK
      simp only [Em.encs]
      gi_wp2
      refine hK _ _ ((KeepsOthers.alloc _ _).from _) (Kc.alloc _ _ _) ⟨own_below h1 (below_alloc W _), h2.alloc h2.size _, h3.alloc _, by simp; omega⟩ ⟨W.heap.size, h4, World.alloc_heap_new W _, rfl⟩
    case body =>
      rintro l' pre x a' W hl' ⟨r, hr⟩ ⟨h1, h2, h3, h4⟩ ⟨Bx, hBx, hbx, rfl⟩ hlen
      have hsn := HSQ.out x.x x.mem
      have hcx := h3.cell
      have e0 : W.cell? ⟨Bx, 0, none⟩ = some (.int .i64 (x.x.c : Nat)) := by rw [cell_of_row _ _ _ _ _ (0, 0) hbx]; rfl
      obtain ⟨z0, g0⟩ : ∃ z, W.cell? ⟨ob, x.x.s, none⟩ = some z := ⟨_, by rw [h1.cellAt x.x.s (by omega), ivs_get _ _ (by rw [csOf_length]; exact hsn)]⟩
      have f0 : W.frozen? ⟨ob, x.x.s, none⟩ = false := by
        rcases h1.2 with ⟨h1, _⟩ | ⟨g2, cap2, cur, h1, _, hg, _⟩
        · simp at h1
        · simp only [Value.slice.injEq, Option.some.injEq, Addr.mk.injEq, and_true, true_and] at h1
          obtain ⟨rfl, rfl⟩ := h1
          exact frozen_of_row _ _ _ _ _ hg
      have hN := own_set h1 x.x.s (x.x.c : Int)
      rw [csOf_set, show pre.map Em.x ++ [x.x] = (pre ++ [x]).map Em.x by rw [List.map_append]; rfl] at hN
      have hobw := (h1.lt ob rfl).1
      have hq : q2 ≠ ob := by omega
      have HEND := Lib.hid (And.intro ((KeepsOthers.setCell W ⟨ob, x.x.s, none⟩ (.int .i64 (x.x.c : Nat))).from W5.heap.size) (And.intro (Kc.set (U := fun k => k = ob) W ⟨ob, x.x.s, none⟩ rfl (.int .i64 (x.x.c : Nat)))
        (And.intro hN (And.intro (h2.setCell (p := ⟨ob, x.x.s, none⟩) hobw (.int .i64 (x.x.c : Nat))) (boxed_setO h3 hq x.x.s (.int .i64 (x.x.c : Nat)))))))
      clear hN h1 h2 h3 hstp hbx hlen hr
      generalize pre ++ [x] = px at *
      generalize x.x.s = xs at *
      generalize x.x.c = xc at *
      generalize x.x.n = xn at *
      gi_wp2
      obtain ⟨h1, h2, h3, h5, h6⟩ := HEND.out
      exact ⟨h1, h2, h3, h5, h6, by simpa using h4⟩
    case done =>
      rintro D ys W hD hS ⟨h1, h2, h3, h4⟩ hK
      have hcx := h3.cell
      have HP : Hid (CodesPost w l (.returned (.tuple #[.slice (some ⟨ob, 0, none⟩) len len, .nilIface])) (W.putObj D (.deferred none))) := Lib.hid (by
        have c := Kc.put (U := fun _ => False) W D _ (.deferred none) hK rfl
        rw [hS] at h1
        refine .inl ⟨HF.out, _, rfl, ?_, h2.grown (grownBy_putObj' W D (.deferred none)) h2.size (fun r e => by cases e; have := HBW.out.size; omega)⟩
        rw [HL.out]
        exact own_kc h1 c (fun _ _ h => h))
      clear h1 h2 hstp
      gi_wp2
      refine ⟨by simp, .inl ⟨_, _, rfl, run_takeDeferred hK, ?_⟩⟩
      exact ⟨_, results_tmp2 rfl _ _ _, by exact HP.out⟩
    case stop =>
      rintro D c pre W _ _ h _
      exact h.elim
  · have HF := Lib.hid hf
    have HB1 := Lib.hid hb1
    clear hf hb1
    gi_wp2
    exact ⟨_, results_tmp2 rfl _ _ _, by exact .inr ⟨HF.out, rfl, HB1.out⟩⟩
end Bk
end Go.Proofs.Ytnlbomijnldlmaa
