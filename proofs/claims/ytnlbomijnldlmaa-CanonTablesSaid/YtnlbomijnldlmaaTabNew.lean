/- canon.NewTable: its contract. -/
import Derived.Test.YtnlbomijnldlmaaTabLen
namespace Go.Proofs.Ytnlbomijnldlmaa
open Go.RowKit

namespace Bk
theorem load_codes (w wr : World) (c : Nat → Int) (v : Value) (hb : Below (boxW w c v).heap.size (boxW w c v) wr) : (loadVar 49 ⟨w.heap.size, 0, none⟩).run Try.prog wr = .ok (codesV c v) wr := by
  have hz := boxW_size w c v
  have hg := (hb.block w.heap.size (by rw [hz]; omega)).trans (heap_alloc_last w _)
  exact run_load_front wr w.heap.size _ 49 _ (0, 0) [.int .i64 (c 0), .int .i64 (c 1), .int .i64 (c 2), .int .i64 (c 3), .int .i64 (c 4), .int .i64 (c 5), .int .i64 (c 6), .int .i64 (c 7), .int .i64 (c 8), .int .i64 (c 9), .int .i64 (c 10), .int .i64 (c 11), .int .i64 (c 12), .int .i64 (c 13), .int .i64 (c 14), .int .i64 (c 15), v] _ hg (fun j u h => by rw [← List.getElem?_toArray] at h; exact h) Try.underlying49 rfl (by kernel_rfl)
theorem tab_form (c : Nat → Int) (s : List UInt8) (ps : List (Nat × Int)) (h : TabOk c s ps) : Cn.formB (tl ps) = true ∧ Cn.formB (Cn.cnt c 16) = true := by
  constructor
  · unfold Cn.formB
    rw [tl_length, Bool.and_eq_true, List.all_eq_true]
    refine ⟨by decide, fun x hx => ?_⟩
    obtain ⟨i, hi, rfl⟩ := List.getElem_of_mem hx
    have := tl_form c s ps h i (by rw [tl_length] at hi; exact hi)
    simp only [List.getD, List.getElem?_eq_getElem hi, Option.getD_some] at this
    exact decide_eq_true this
  · unfold Cn.formB
    rw [Bool.and_eq_true, List.all_eq_true]
    have h1 := tab_len c s ps h
    exact ⟨decide_eq_true (by omega), fun x hx => decide_eq_true (Cn.cnt_bound c 16 (by omega) x hx)⟩
theorem tab_freeB (c : Nat → Int) (s : List UInt8) (ps : List (Nat × Int)) (h : TabOk c s ps) : Cn.freeB (tl ps) = Cn.freeB (Cn.cnt c 16) := by
  obtain ⟨h1, h2⟩ := tab_form c s ps h
  unfold Cn.freeB
  rw [h1, h2, tab_sum c s ps h]
theorem tab_cok (c : Nat → Int) (s : List UInt8) (ps : List (Nat × Int)) (h : TabOk c s ps) (hc : ∀ k, k < 16 → 0 ≤ c k) : Cn.cOk c = true := by
  refine Cn.ok_of c (fun k hk => ⟨hc k hk, ?_⟩)
  have h1 := tab_len c s ps h
  have h2 := Cn.cnt_le c (k + 1) 16 (by omega)
  rw [Cn.cnt_succ, List.length_append, List.length_replicate] at h2
  omega
theorem tab_good (c : Nat → Int) (s : List UInt8) (ps : List (Nat × Int)) (h : TabOk c s ps) (hf : Cn.freeB (tl ps) = true) : Good (rowsOf (tl ps) (ps.map (·.1))) := by
  refine ⟨rfl, ?_⟩
  have h1 := (tog_seq (rowsOf (tl ps) (ps.map (·.1))) rfl 17 (Nat.le_refl _)).2
  rw [sizR_tab c s ps h, ← tab_sum c s ps h] at h1
  rw [← h1]
  simp only [Cn.freeB, Bool.and_eq_true, decide_eq_true_eq] at hf
  exact hf.2
theorem tab_yes (c : Nat → Int) (s : List UInt8) (ps : List (Nat × Int)) (h : TabOk c s ps) (hc : ∀ k, k < 16 → 0 ≤ c k) (hf : Cn.freeB (tl ps) = true) (hn : Cn.sum (tl ps) ≠ 65536) : Cn.tabB c s = true := by
  have h1 := tab_len c s ps h
  rw [Cn.tab_good c s (tab_cok c s ps h hc) h1.1 h1.2.2 (by rw [← tab_freeB c s ps h]; exact hf)]
  have : Cn.freeN (Cn.cnt c 16) ≠ 0 := by
    unfold Cn.freeN
    rw [if_pos (tab_form c s ps h).2, ← tab_sum c s ps h]
    omega
  simp [this]
theorem tab_not (c : Nat → Int) (s : List UInt8) (ps : List (Nat × Int)) (h : TabOk c s ps) (hn : Cn.freeB (tl ps) = false ∨ Cn.sum (tl ps) = 65536) : Cn.tabB c s = false := by
  rcases hn with hn | hn
  · exact Cn.tab_free c s (by rw [← tab_freeB c s ps h]; exact hn)
  · have h0 : s ≠ [] := fun e => by
      have h1 := tab_len c s ps h
      rw [e, List.length_nil, List.length_eq_zero_iff] at h1
      rw [tab_sum c s ps h, h1.1] at hn
      exact absurd hn (by decide)
    have h2 : Cn.freeN (Cn.cnt c 16) = 0 := by
      unfold Cn.freeN
      rw [if_pos (tab_form c s ps h).2, ← tab_sum c s ps h]
      omega
    simp [Cn.tabB, h0, h2]
/-- The symbols below k, then 0. -/
def upS (s : List UInt8) (n k : Nat) : List Int := (List.range n).map fun i => if i < k then ((gb s i : Nat) : Int) else 0
theorem upS_length (s : List UInt8) (n k : Nat) : (upS s n k).length = n := by simp [upS]
theorem upS_zero (s : List UInt8) (n : Nat) : upS s n 0 = List.replicate n 0 := by
  rw [List.eq_replicate_iff]
  refine ⟨upS_length _ _ _, fun b hb => ?_⟩
  simp only [upS, List.mem_map] at hb
  obtain ⟨i, _, rfl⟩ := hb
  simp
theorem upS_set (s : List UInt8) (n k : Nat) : (upS s n k).set k ((gb s k : Nat) : Int) = upS s n (k + 1) := by
  apply List.ext_getElem?
  intro i
  rw [List.getElem?_set, upS_length]
  by_cases hi : i < n
  · have e1 : ∀ m, (upS s n m)[i]? = some (if i < m then ((gb s i : Nat) : Int) else 0) := fun m => by simp [upS, List.getElem?_range hi]
    rw [e1, e1]
    by_cases h : k = i
    · subst h; rw [if_pos rfl, if_pos hi, if_pos (by omega)]
    · rw [if_neg h]
      by_cases h2 : i < k
      · rw [if_pos h2, if_pos (by omega)]
      · rw [if_neg h2, if_neg (by omega)]
  · have e1 : ∀ m, (upS s n m)[i]? = none := fun m => by rw [List.getElem?_eq_none]; rw [upS_length]; omega
    rw [e1, e1]
    split
    · rw [if_neg (by omega)]
    · rfl
theorem upS_full (s : List UInt8) (n : Nat) (h : s.length = n) : upS s n n = Cn.syB s := by
  apply List.ext_getElem
  · rw [upS_length, Cn.syB_length, h]
  · intro i h1 h2
    rw [upS_length] at h1
    have := Cn.syB_get s i (by omega)
    simp only [List.getD, List.getElem?_eq_getElem h2, Option.getD_some] at this
    rw [this]
    simp [upS, h1]
theorem sy_tab (c : Nat → Int) (s : List UInt8) (ps : List (Nat × Int)) (h : TabOk c s ps) : sy (ps.map (·.1)) = Cn.syB s := by
  rw [← h.p1]; unfold sy; rw [List.map_map]; rfl
theorem NB.over {w wx wy : World} {B g gc : Nat} {fs : Nat → Int} {vs : Nat → Value} {wv : Value} {e : Int} {R : Nat → List Nat} {ws : List (Nat × Nat)} (h : NB w B g fs vs wv e R ws) (hb : Below w.heap.size w wx) (c : Ch wx wy (fun k => k = gc)) (hgc : gc < B) : NB wy B g fs vs wv e R ws :=
  (h.mono hb).kept c (fun e => by have := h.hg; omega) (fun k hk e => by have := (h.words.lt k hk).1; omega) (fun k hk e => by
    obtain ⟨n, hn, hk⟩ := hk
    have := ((h.rows n hn).lt k hk).1
    omega)
def TabNewPost (w : World) (c : Nat → Int) (s : List UInt8) (e : Ending) (w' : World) : Prop :=
  (Cn.tabB c s = true ∧ ∃ (g : Nat) (ps : List (Nat × Int)) (fs : Nat → Int) (vs : Nat → Value) (wv : Value), e = .returned (.tuple #[.pointer (some ⟨g, 0, none⟩), .nilIface]) ∧ TabOk c s ps ∧ Good (rowsOf (tl ps) (ps.map (·.1))) ∧ (∀ n, n < 17 → fs n = (fst (rowsOf (tl ps) (ps.map (·.1))) n : Nat)) ∧ NB w' w.heap.size g fs vs wv (nx (rowsOf (tl ps) (ps.map (·.1))) 17) (rowsOf (tl ps) (ps.map (·.1))) (wsOf (seq (rowsOf (tl ps) (ps.map (·.1))) 17) 256) ∧ Below w.heap.size w w') ∨
  (Cn.tabB c s = false ∧ e = .returned (.tuple #[.pointer none, .iface 35 (.int .i64 6)]) ∧ Below w.heap.size w w')
set_option maxRecDepth 100000 in
set_option maxHeartbeats 4000000 in
theorem table_any (c : Nat → Int) (a : Option Addr) (len cap : Nat) (s : List UInt8) (w : World) (h : Bs w a len cap s) (hlen : len ≤ 1000000) (ha : ∀ ad, a = some ad → ∃ b o, ad = ⟨b, o, none⟩) :
    Calls Try.prog 21 #[codesV c (.slice a len cap)] w (TabNewPost w c s) := by
  have HL := Lib.hid h.hlen
  have H := Lib.hid h
  clear h
  have HB0 := Lib.hid (show Below w.heap.size w (boxW w c (.slice a len cap)) from below_alloc _ _)
  have HT := Lib.hid (tabLen_any c a len cap s _ (H.out.mono HB0.out) hlen ha)
  have HLD := Lib.hid (load_codes w _ c (.slice a len cap) (Below.refl _ _))
  have HBX := Lib.hid (fun wr hb => (box_cell w wr c (.slice a len cap) hb 0 (by omega)).2)
  have hz0 := boxW_size w c (.slice a len cap)
  unfold codesV
  go_enter Try.func21, Try.ntmps21
  go_wp2_with (refine wpl_load rfl 49 _ rfl ⟨w.heap.size, 0, none⟩ rfl _ HLD.out ?_)
  clear HLD
  unfold codesV
  unfold codesV at HT
  go_wp2_with fail
  refine HT.out.mono ?_
  rintro e w1 ⟨a1, n1, cap1, L, ok, rfl, his, hn, hb1, hno, hyes⟩
  clear HT
  have HBW := Lib.hid (below_then HB0.out hb1)
  have HC1 := Lib.hid (HBX.out w1 hb1)
  have HI := Lib.hid his
  have HNO := Lib.hid hno
  have HYES := Lib.hid hyes
  have HZ1 := Lib.hid hb1.size
  clear his hno hyes hb1
  go_wp2_with fail
  refine (free_any a1 n1 cap1 L w1 HI.out (by omega)).mono ?_
  rintro e w' ⟨rfl, rfl⟩
  cases ok
  · have HN : Hid (TabNewPost w c s (.returned (.tuple #[.pointer none, .iface 35 (.int .i64 6)])) w1) := Lib.hid (.inr ⟨HNO.out rfl, rfl, HBW.out⟩)
    cases Cn.freeB L
    · simp only [Bool.false_eq_true, if_false]
      go_wp2
      go_ret2
      exact HN.out
    · simp only [if_true]
      go_wp2
      go_ret2
      exact HN.out
  obtain ⟨⟨ps, hok, rfl⟩, rfl, hc0⟩ := HYES.out rfl
  have HOK := Lib.hid hok
  cases hf : Cn.freeB (tl ps)
  · have HN : Hid (TabNewPost w c s (.returned (.tuple #[.pointer none, .iface 35 (.int .i64 6)])) w1) := Lib.hid (.inr ⟨tab_not c s ps hok (.inl hf), rfl, HBW.out⟩)
    clear hok hc0 hf
    simp only [Bool.false_eq_true, if_false]
    go_wp2
    go_ret2
    exact HN.out
  have hG := tab_good c s ps hok hf
  have hs1 := (tab_len c s ps hok).2.1
  rw [HL.out] at hs1
  have hsm : Cn.sum (tl ps) ≤ 65536 := by
    have h1 := hf
    simp only [Cn.freeB, Bool.and_eq_true, decide_eq_true_eq] at h1
    exact h1.2
  by_cases hsum : Cn.sum (tl ps) = 65536
  · have HN : Hid (TabNewPost w c s (.returned (.tuple #[.pointer none, .iface 35 (.int .i64 6)])) w1) := Lib.hid (.inr ⟨tab_not c s ps hok (.inr hsum), rfl, HBW.out⟩)
    clear hok hc0 hf hG
    rw [hsum]
    clear hsum hsm
    simp only [if_true]
    go_wp2
    go_ret2
    exact HN.out
  have HYS := Lib.hid (tab_yes c s ps hok hc0 hf hsum)
  have HG := Lib.hid hG
  have hfr : (((65536 : Int) - (Cn.sum (tl ps) : Nat)) == 0) = false := by simp; omega
  clear hok hc0 hf hG
  generalize Cn.sum (tl ps) = sm at *
  simp only [if_true]
  have c16 := HC1.out
  go_wp2_with (at_make; refine wpl_make_full tyI rfl _ _ rfl w1.heap.size .i64 .i64 _ _ len rfl rfl rfl rfl (by omega) (by omega) (Nat.le_refl _) ?_)
  intro w2 own2 hg2
  have hb2 : Below w1.heap.size w1 w2 := (Below.refl _ _).grown hg2 (Nat.le_refl _) (by simp)
  have own3 : w2.ownsRow w1.heap.size 3 1 (.slice (some ⟨w1.heap.size, 0, none⟩) len len) len (ivs (upS s len 0)) := by rw [upS_zero]; have e := made_ints1 len; rw [Nat.mul_one] at e; rw [e] at own2; exact own2
  have HO := Lib.hid own3
  have c17 : w2.cell? ⟨w.heap.size, 16, none⟩ = some (.slice a len cap) := by
    rw [hb2.cell (p := ⟨w.heap.size, 16, none⟩) (by have := HZ1.out; show w.heap.size < _; omega)]; exact c16
  have HB2 := Lib.hid hb2
  clear own2 own3 hg2 hb2 c16 HYES HNO hz0 hsum hfr
  generalize hq : w1.heap.size = q at *
  have HQ := Lib.hid hq
  clear hq
  generalize w.heap.size = bx at c17
  go_wp2
  clear c17
  go_loopw [39] (fun i wr => ∃ k : Nat, k ≤ len ∧ i = .int .i64 k ∧ Hid (wr.ownsRow q 3 1 (.slice (some ⟨q, 0, none⟩) len len) len (ivs (upS s len k))) ∧ Hid (Below q w1 wr)) (fun i _ => len - (intOf i).toNat)
  case atStart => exact ⟨0, by omega, rfl, HO, HB2⟩
  case round =>
    obtain ⟨k, hk, rfl, HK, HB⟩ := hrel
    by_cases hlt : k < len
    · have c1 : ∃ z, wr.cell? ⟨q, k, none⟩ = some z := ⟨_, by rw [HK.out.cellAt k (by omega), ivs_get _ _ (by rw [upS_length]; exact hlt)]⟩
      obtain ⟨z, c1⟩ := c1
      obtain ⟨b1, o1, rfl, _, cs⟩ := (H.out.mono (HBW.out.trans (HB.out.mono (by rw [← HQ.out]; exact HBW.out.size)))).at' k hlt
      have HS := Lib.hid (own_set HK.out k (gb s k : Nat))
      rw [upS_set] at HS
      have hx := gb_lt s k
      have HB2 := Lib.hid (HB.out.setCell (p := ⟨q, k, none⟩) (Nat.le_refl _) (.int .i64 (gb s k : Nat)))
      have f1 : wr.frozen? ⟨q, k, none⟩ = false := by
        rcases HK.out.2 with ⟨h1, _⟩ | ⟨g2, cap2, cur, h1, _, hg, _⟩
        · simp at h1
        · simp only [Value.slice.injEq, Option.some.injEq, Addr.mk.injEq, and_true, true_and] at h1
          obtain ⟨rfl, rfl⟩ := h1
          exact frozen_of_row _ _ _ _ _ hg
      generalize gb s k = x at *
      go_wp2
      go_roundw
      case rel => exact ⟨k + 1, by omega, by go_num, HS, HB2⟩
      case measure => simp [intOf]; omega
    · obtain rfl : len = k := by omega
      rw [upS_full s len HL.out, ← sy_tab c s ps HOK.out] at HK
      have hw : Wf (sy (ps.map (·.1))) := by rw [sy_tab c s ps HOK.out]; exact wf_small (Cn.syB_small s)
      have hpl : (ps.map (·.1)).length = len := by
        have := congrArg List.length (sy_tab c s ps HOK.out)
        rw [sy_length, Cn.syB_length, HL.out] at this; exact this
      have his := is_of_own HK.out hw 0 len len (by omega) (Nat.le_refl _)
      rw [List.drop_zero, List.take_of_length_le (by rw [sy_length, hpl]; exact Nat.le_refl _)] at his
      have HI3 := Lib.hid his
      have HI4 := Lib.hid (HI.out.mono (by rw [HQ.out]; exact HB.out))
      have HBQ := Lib.hid (HBW.out.trans (HB.out.mono (by rw [← HQ.out]; exact HBW.out.size)))
      clear hw his hpl
      go_wp2_with fail
      refine (newBook_any _ len len (ps.map (·.1)) a1 256 cap1 (tl ps) wr HI3.out HI4.out (by omega) (by omega) (fun x hx => by obtain ⟨p, hp, rfl⟩ := List.mem_map.1 hx; exact HOK.out.lt p hp) (tl_form c s ps HOK.out) HG.out).mono ?_
      rintro e w5 ⟨g, fs, vs, wv, rfl, hfs, hnb, hb5⟩
      have HP : Hid (TabNewPost w c s (.returned (.tuple #[.pointer (some ⟨g, 0, none⟩), .nilIface])) w5) := Lib.hid (by
        rw [tl_length] at hnb
        exact .inl ⟨HYS.out, g, ps, fs, vs, wv, rfl, HOK.out, HG.out, hfs, hnb.base HBQ.out.size, below_then HBQ.out hb5⟩)
      clear hnb hfs hb5
      go_wp2
      go_ret2
      exact HP.out
end Bk
end Go.Proofs.Ytnlbomijnldlmaa
