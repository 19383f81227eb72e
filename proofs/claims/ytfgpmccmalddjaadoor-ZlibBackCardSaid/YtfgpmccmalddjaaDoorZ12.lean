/- canon.newBook: its contract. Books of lengths: in form, and the document's codes. canon.Free: its contract. -/
import Derived.Test.YtfgpmccmalddjaaDoorZ11
set_option linter.unusedSimpArgs false
set_option linter.unusedVariables false
section
namespace Go.Proofs.YtfgpmccmalddjaaDoor
open Go.RowKit Go.Shelf
attribute [local go_sem] Oper.semAt_some
namespace Bk
theorem tyW : RowTy Tryd.prog 187 204 (.agg #[.int .i64 0, .int .i64 0]) 2 16 := ⟨Tryd.underlying187, by kernel_rfl, rfl, by omega⟩
def wsOf (xs : List It) (n : Nat) : List (Nat × Nat) := (List.range n).map (look xs)
def NewBookPost (w : World) (l : List Int) (ord : List Nat) (e : Ending) (w' : World) : Prop :=
  ∃ (g : Nat) (fs : Nat → Int) (vs : Nat → Value) (wv : Value), e = .returned (.pointer (some ⟨g, 0, none⟩)) ∧ (∀ n, n < 17 → fs n = (fst (rowsOf l ord) n : Nat)) ∧ NB w' w.heap.size g fs vs wv (nx (rowsOf l ord) 17) (rowsOf l ord) (wsOf (seq (rowsOf l ord) 17) l.length) ∧ Below w.heap.size w w'
theorem fst_int (R : Nat → List Nat) (m : Nat) : ((fst R m : Nat) : Int) = ((nx R m : Nat) : Int) * 2 := by
  have : fst R m = 2 * nx R m := rfl
  omega
theorem wsOf_length (xs : List It) (n : Nat) : (wsOf xs n).length = n := by simp [wsOf]
theorem wsOf_nil (n : Nat) : wsOf [] n = List.replicate n (0, 0) := by
  rw [List.eq_replicate_iff]
  refine ⟨wsOf_length _ _, fun b hb => ?_⟩
  simp only [wsOf, List.mem_map] at hb
  obtain ⟨i, _, rfl⟩ := hb
  rfl
theorem wsOf_set (xs : List It) (n : Nat) (x : It) : (wsOf xs n).set x.s (x.c, x.n) = wsOf (xs ++ [x]) n := by
  apply List.ext_getElem?
  intro i
  rw [List.getElem?_set, wsOf_length]
  by_cases hi : i < n
  · have e1 : (wsOf xs n)[i]? = some (look xs i) := by simp [wsOf, List.getElem?_range hi]
    have e2 : (wsOf (xs ++ [x]) n)[i]? = some (look (xs ++ [x]) i) := by simp [wsOf, List.getElem?_range hi]
    rw [e1, e2, look_snoc]
    by_cases h : x.s = i
    · rw [if_pos h, if_pos (by omega), if_pos h]
    · rw [if_neg h, if_neg h]
  · have e1 : (wsOf xs n)[i]? = none := by rw [List.getElem?_eq_none]; rw [wsOf_length]; omega
    have e2 : (wsOf (xs ++ [x]) n)[i]? = none := by rw [List.getElem?_eq_none]; rw [wsOf_length]; omega
    rw [e1, e2]
    split
    · rw [if_neg (by omega)]
    · rfl
theorem wvs_set (ws : List (Nat × Nat)) (i c n : Nat) : ((wvs ws).set (i * 2) (.int .i64 (c : Nat))).set (i * 2 + 1) (.int .i64 (n : Nat)) = wvs (ws.set i (c, n)) := by
  induction ws generalizing i with
  | nil => simp [wvs]
  | cons p ws ih =>
    have e : wvs (p :: ws) = .int .i64 (p.1 : Nat) :: .int .i64 (p.2 : Nat) :: wvs ws := rfl
    cases i with
    | zero => rw [e]; rfl
    | succ i =>
      rw [e, show (i + 1) * 2 = i * 2 + 2 by omega]
      simp only [List.set_cons_succ]
      rw [ih i]; rfl
theorem NB.kc {U : Nat → Prop} {w w' : World} {B g : Nat} {fs : Nat → Int} {vs : Nat → Value} {wv : Value} {e : Int} {R : Nat → List Nat} {ws : List (Nat × Nat)} (h : NB w B g fs vs wv e R ws) (c : Kc U w w') (h1 : ¬ U g) (h2 : ∀ k, wv.ownBlock = some k → ¬ U k) (h3 : ∀ k, Tr vs k → ¬ U k) : NB w' B g fs vs wv e R ws :=
  ⟨c g _ h.blk rfl h1, h.rows.kept c h3, own_kc h.words c h2, h.hg, h.dj, h.ne, h.wne, h.wdj⟩
/-- A symbol's code is written. -/
theorem NB.word {w : World} {B g wb wc : Nat} {fs : Nat → Int} {vs : Nat → Value} {e : Int} {R : Nat → List Nat} {ws : List (Nat × Nat)} {len : Nat} (h : NB w B g fs vs (.slice (some ⟨wb, 0, none⟩) len wc) e R ws) (hl : ws.length = len) (i c n : Nat) :
    NB ((w.setCell ⟨wb, i * 2, none⟩ (.int .i64 (c : Nat))).setCell ⟨wb, i * 2 + 1, none⟩ (.int .i64 (n : Nat))) B g fs vs (.slice (some ⟨wb, 0, none⟩) len wc) e R (ws.set i (c, n)) := by
  have c1 := ch_set w wb (i * 2) (.int .i64 (c : Nat))
  have c2 := ch_set (w.setCell ⟨wb, i * 2, none⟩ (.int .i64 (c : Nat))) wb (i * 2 + 1) (.int .i64 (n : Nat))
  have cc := c1.trans c2 (fun k hk => .inl hk)
  have hwg : wb ≠ g := fun e => h.wne (by rw [e]; rfl)
  refine ⟨by rw [cc.block g h.lt (fun e => hwg e.symm)]; exact h.blk, fun m hm => cc.own (h.rows m hm) (fun k hk e => h.wdj m hm k hk (by rw [e]; rfl)), ?_, h.hg, h.dj, h.ne, h.wne, h.wdj⟩
  have h1 := h.words
  subst hl
  have h2 := (h1.stored (i * 2) (.int .i64 (c : Nat))).1
  have h3 := (h2.stored (i * 2 + 1) (.int .i64 (n : Nat))).1
  rw [wvs_set] at h3
  rw [List.length_set]; exact h3
theorem NB.wcell {w : World} {B g wb wc : Nat} {fs : Nat → Int} {vs : Nat → Value} {e : Int} {R : Nat → List Nat} {ws : List (Nat × Nat)} {len : Nat} (h : NB w B g fs vs (.slice (some ⟨wb, 0, none⟩) len wc) e R ws) (hl : ws.length = len) :
    ∃ C, w.heap[wb]? = some (.cells C 204 (0, 0)) ∧ len * 2 ≤ C.size := by
  have h1 := h.words
  subst hl
  rcases h1.2 with ⟨h2, _⟩ | ⟨g2, cap, cur, h2, _, hg, hle, _, hsz, _⟩
  · simp at h2
  · simp only [Value.slice.injEq, Option.some.injEq, Addr.mk.injEq, and_true, true_and] at h2
    obtain ⟨rfl, rfl⟩ := h2
    exact ⟨cur, hg, by omega⟩
theorem seq_sym (l : List Int) (ord : List Nat) (n : Nat) (hs : ∀ s ∈ ord, s < n) (x : It) (hx : x ∈ seq (rowsOf l ord) 17) : x.s < n := by
  obtain ⟨m, i, _, hi, rfl⟩ := (mem_seq _ _ _).1 hx
  have : (rowsOf l ord m).getD i 0 ∈ rowsOf l ord m := by simp [List.getD, List.getElem?_eq_getElem hi]
  exact hs _ (rowsOf_mem l ord m _ this).1
theorem drew_is (w : World) : Below w.heap.size w w.drew := ⟨rfl, rfl, rfl, Nat.le_refl _, fun _ _ => rfl⟩
theorem kc_set2 (W : World) (wb a b : Nat) (v1 v2 : Value) (U : Nat → Prop) (h : U wb) : Kc U W (((W.setCell ⟨wb, a, none⟩ v1).setCell ⟨wb, b, none⟩ v2).drew) :=
  Kc.drew (Kc.trans (Kc.set W ⟨wb, a, none⟩ h v1) (Kc.set (W.setCell ⟨wb, a, none⟩ v1) ⟨wb, b, none⟩ h v2))
theorem bk_zero (wv : Value) : (#[.int .i64 0, .slice none 0 0, .int .i64 0, .slice none 0 0, .int .i64 0, .slice none 0 0, .int .i64 0, .slice none 0 0, .int .i64 0, .slice none 0 0, .int .i64 0, .slice none 0 0, .int .i64 0, .slice none 0 0,
    .int .i64 0, .slice none 0 0, .int .i64 0, .slice none 0 0, .int .i64 0, .slice none 0 0, .int .i64 0, .slice none 0 0, .int .i64 0, .slice none 0 0, .int .i64 0, .slice none 0 0, .int .i64 0, .slice none 0 0, .int .i64 0, .slice none 0 0,
    .int .i64 0, .slice none 0 0, .int .i64 0, .slice none 0 0, wv, .int .i64 0] : Array Value) = bkCells (fun _ => 0) (fun _ => .slice none 0 0) wv 0 := rfl
set_option maxRecDepth 100000 in
set_option maxHeartbeats 4000000 in
theorem newBook_any (a : Option Addr) (len cap : Nat) (ord : List Nat) (b : Option Addr) (len2 cap2 : Nat) (l : List Int) (w : World) (h : Is .i64 w a len cap (sy ord)) (h2 : Is .i64 w b len2 cap2 l) (hl : len ≤ 1000000) (hl2 : len2 ≤ 1000000)
    (hs : ∀ s ∈ ord, s < len2) (hz : ∀ k, k < len2 → 0 ≤ l.getD k 0 ∧ l.getD k 0 ≤ 16) (hG : Good (rowsOf l ord)) :
    Calls Tryd.prog 105 #[.slice a len cap, .slice b len2 cap2] w (NewBookPost w l ord) := by
  have HL := Lib.hid (show ord.length = len by have := h.hlen; rwa [sy_length] at this)
  have HL2 := Lib.hid h2.hlen
  have H := Lib.hid h
  have H2 := Lib.hid h2
  have HS := Lib.hid hs
  have HZ := Lib.hid hz
  clear h h2 hs hz
  refine (callsIn_wide (n := 3)).1 ?_
  have hro : (Fence.wide).round = none := rfl
  refine callsIn_of_wp_marks Tryd.func105 rfl trivial ?_ hro
  simp only [Tryd.ntmps105, List.size_toArray, List.length_cons, List.length_nil, Nat.reduceAdd, Nat.reduceSub, Array.replicate_succ, Array.replicate_zero, List.push_toArray, List.append_toArray, List.nil_append, List.cons_append]
  gi_wp2_with (gi_at_make; refine wplIn_make_full tyW rfl _ _ rfl w.heap.size .i64 .i64 _ _ len2 rfl rfl rfl rfl (by omega) (by omega) (Nat.le_refl _) ?_)
  intro w1 own1 hg1
  have hb1 : Below w.heap.size w w1 := (Below.refl _ _).grown hg1 (Nat.le_refl _) (by simp)
  have hz1 := hb1.size
  have hz1' : w.heap.size < w1.heap.size := (own1.lt _ rfl).2
  rw [made_words] at own1
  gi_wp2
  rw [bk_zero]
  obtain ⟨w3, hw3⟩ : ∃ w3, w3 = (w1.alloc (.cells (bkCells (fun _ => 0) (fun _ => .slice none 0 0) (.slice (some ⟨w.heap.size, 0, none⟩) len2 len2) 0) 189)).alloc (.cells #[Value.pointer (some ⟨w1.heap.size, 0, none⟩)] 116) := ⟨_, rfl⟩
  rw [← hw3]
  have hb3 : Below w.heap.size w w3 := by rw [hw3]; exact (hb1.alloc hz1 _).alloc (by simp; omega) _
  have hnb3 : NB w3 w.heap.size w1.heap.size (fun _ => 0) (fun _ => .slice none 0 0) (.slice (some ⟨w.heap.size, 0, none⟩) len2 len2) 0 (rowsOf l []) (List.replicate len2 (0, 0)) := by
    subst hw3
    refine ⟨heap_alloc2_old _ _ _, fun n hn => ?_, ?_, hz1, fun n m _ _ _ k hk => by simp [Value.ownBlock] at hk, fun n _ => by simp [Value.ownBlock], fun e => by simp [Value.ownBlock] at e; omega, fun n _ k hk => by simp [Value.ownBlock] at hk⟩
    · have : rowsOf l [] n = [] := by unfold rowsOf; split <;> rfl
      rw [this]; exact World.ownsRow_nil _ _ _ _
    · rw [List.length_replicate]; exact (own1.alloc _).alloc _
  have hbox3 : Boxed w3 (w1.heap.size + 1) 116 (.pointer (some ⟨w1.heap.size, 0, none⟩)) := by rw [hw3]; exact heap_alloc2_new _ _ _
  clear hw3 own1 hg1 hb1
  generalize hX : w1.heap.size + 1 = X at *
  generalize w1.heap.size = g at *
  generalize Value.agg (bkCells (fun _ => 0) (fun _ => .slice none 0 0) (.slice (some ⟨w.heap.size, 0, none⟩) len2 len2) 0) = u18
  generalize Value.slice (some ⟨w.heap.size, 0, none⟩) len2 len2 = wv at *
  have HXG := Lib.hid (show X ≠ g by omega)
  have HXB := Lib.hid (show w.heap.size ≤ X by omega)
  have H3 := Lib.hid hnb3
  have HB3 := Lib.hid hb3
  have HX3 := Lib.hid hbox3
  clear hnb3 hb3 hbox3 hX hz1 hz1'
  gi_loopw [22] (fun i wr => ∃ (k : Nat) (vs : Nat → Value), k ≤ len ∧ i = .int .i64 k ∧ Hid (NB wr w.heap.size g (fun _ => 0) vs wv 0 (rowsOf l (ord.take k)) (List.replicate len2 (0, 0))) ∧ Hid (Below w.heap.size w wr) ∧ Hid (Boxed wr X 116 (.pointer (some ⟨g, 0, none⟩))) ∧ Hid (∀ n, n < 17 → (vs n).ownBlock ≠ some X))
    (fun i _ => len - (intOf i).toNat)
  case atStart => exact ⟨0, _, by omega, rfl, H3, HB3, HX3, Lib.hid (fun n _ => by simp [Value.ownBlock])⟩
  case round =>
    obtain ⟨k, vs, hk, rfl, HN, HB, HX, HV⟩ := hrel
    by_cases hlt : k < len
    · obtain ⟨rb, ro, rfl, _, c1⟩ := (H.out.mono HB.out).at' k hlt
      rw [sy_getD] at c1
      have hkl : k < ord.length := by rw [HL.out]; exact hlt
      have ht : ord.take (k + 1) = ord.take k ++ [ord.getD k 0] := by rw [List.take_succ_eq_append_getElem hkl]; simp [List.getD, List.getElem?_eq_getElem hkl]
      have hsl : ord.getD k 0 < len2 := HS.out _ (by simp [List.getD, List.getElem?_eq_getElem hkl])
      have HT := Lib.hid ht
      clear ht hkl
      generalize ord.getD k 0 = s at *
      obtain ⟨lb, lo, rfl, _, c2⟩ := (H2.out.mono HB.out).at' s hsl
      have hzr := HZ.out s hsl
      have hcb := HX.out.cell
      by_cases h0 : l.getD s 0 = 0
      · rw [h0] at c2
        have hR := Lib.hid (rowsOf_snoc_no l (ord.take k) s h0)
        clear h0 hzr
        gi_wp2
        go_roundw
        case rel => exact ⟨k + 1, vs, by omega, by go_num, Lib.hid (by rw [HT.out, hR.out]; exact HN.out), HB, HX, HV⟩
        case measure => simp [intOf]; omega
      · obtain ⟨n, hn⟩ := Int.eq_ofNat_of_zero_le hzr.1
        rw [hn] at c2
        have hn0 : 0 < n := by omega
        have hn17 : n < 17 := by omega
        have hR := Lib.hid (rowsOf_snoc l (ord.take k) s n hn0 hn)
        have dpos : decide ((0 : Int) < (n : Int)) = true := by simp; omega
        clear h0 hzr hn
        have hown := HN.out.rows n hn17
        have hle := rowsOf_le l (ord.take k) n
        rw [List.length_take] at hle
        have cv : wr.cell? ⟨g, n * 2 + 1, none⟩ = some (vs n) := by rw [Nat.mul_comm]; exact HN.out.cV n hn17
        have HNa := Lib.hid (HN.out.mono (below_alloc wr (.cells #[Value.int .i64 (s : Nat)] 3)))
        have hba : w.heap.size ≤ (wr.alloc (.cells #[Value.int .i64 (s : Nat)] 3)).heap.size := by have := HB.out.size; simp; omega
        have hsrc := src_int wr (s : Nat)
        have HBa := Lib.hid (HB.out.alloc HB.out.size (.cells #[Value.int .i64 (s : Nat)] 3))
        have HXa := Lib.hid (HX.out.alloc (.cells #[Value.int .i64 (s : Nat)] 3))
        gi_wp2_with (gi_at_builtin; refine wplIn_app tyI rfl _ _ rfl (HNa.out.rows n hn17) hsrc rfl rfl (by omega) (by omega) (by omega) hba ?_)
        intro v4 w4 own4 c4 f4
        rw [← ivs_append] at own4
        have own5 : w4.ownsRow w.heap.size 3 1 v4 ((rowsOf l (ord.take k) n).length + 1) (ivs (sy (rowsOf l (ord.take k) n ++ [s]))) := by rw [sy_append]; exact own4
        obtain ⟨g4, cap4, rfl⟩ := ownsRow_succ own4
        have HN5 := Lib.hid (HNa.out.push n hn17 s _ own5 c4 (by simpa using f4))
        have hb4 : Below w.heap.size w w4 := HBa.out.trans (c4.below hba (fun k hk => ((HNa.out.rows n hn17).lt k hk).1))
        have HB5 := Lib.hid (hb4.setCell (p := ⟨g, n * 2 + 1, none⟩) (by show w.heap.size ≤ g; exact HN.out.hg) (.slice (some ⟨g4, 0, none⟩) ((rowsOf l (ord.take k) n).length + 1) cap4))
        have hbx : Boxed w4 X 116 (.pointer (some ⟨g, 0, none⟩)) := (c4.block X HXa.out.lt (HV.out n hn17)).trans HXa.out
        have HX5 := Lib.hid (boxed_setO hbx HXG.out (n * 2 + 1) (.slice (some ⟨g4, 0, none⟩) ((rowsOf l (ord.take k) n).length + 1) cap4))
        have c5 : w4.cell? ⟨g, n * 2 + 1, none⟩ = some (vs n) := by
          rw [← cv]
          exact World.cell?_of_block (w := wr) (by rw [c4.block g HNa.out.lt (HN.out.ne n hn17)]; exact Below.heap_alloc wr _ g HN.out.lt)
        have f5 : w4.frozen? ⟨g, n * 2 + 1, none⟩ = false := by
          refine frozen_of_row w4 g _ (bkCells (fun _ => 0) vs wv 0) 189 ?_
          rw [c4.block g HNa.out.lt (HN.out.ne n hn17)]; exact HNa.out.blk
        have HV5 : Hid (∀ m, m < 17 → (upd vs n (Value.slice (some ⟨g4, 0, none⟩) ((rowsOf l (ord.take k) n).length + 1) cap4) m).ownBlock ≠ some X) := Lib.hid (fun m hm => by
          by_cases hmn : m = n
          · subst hmn
            rw [upd_same]
            intro e
            rcases f4 X e with h1 | h1
            · exact HV.out m hm h1
            · have := HX.out.lt; omega
          · rw [upd_other _ _ _ _ hmn]; exact HV.out m hm)
        rw [← hR.out, ← HT.out, Nat.mul_comm 2 n] at HN5
        clear own4 own5 c4 f4 hsrc HNa HBa HXa hba hb4 hbx cv hown
        gi_wp2
        go_roundw
        case rel => exact ⟨k + 1, _, by omega, by go_num, HN5, HB5, HX5, HV5⟩
        case measure => simp [intOf]; omega
    · obtain rfl : len = k := by omega
      rw [List.take_of_length_le (by rw [HL.out]; exact Nat.le_refl _)] at HN
      have hRl := fun n => rowsOf_le l ord n
      have HSO := HS
      clear H2 HZ H3 HB3 HX3
      generalize hRR : rowsOf l ord = R at *
      have HRR := Lib.hid hRR
      clear hRR
      gi_wp2
      gi_loopw [10, 48] (fun nxv i wr => ∃ (m : Nat) (fs : Nat → Int), m ≤ 17 ∧ i = .int .i64 m ∧ nxv = .int .i64 (nx R m : Nat) ∧ Hid (∀ n, n < m → fs n = (fst R n : Nat)) ∧ Hid (NB wr w.heap.size g fs vs wv 0 R (List.replicate len2 (0, 0))) ∧ Hid (Below w.heap.size w wr) ∧ Hid (Boxed wr X 116 (.pointer (some ⟨g, 0, none⟩))))
        (fun _ i _ => 17 - (intOf i).toNat)
      case atStart => exact ⟨0, _, by omega, rfl, rfl, Lib.hid (fun n hn => absurd hn (by omega)), HN, HB, HX⟩
      case round =>
        obtain ⟨m, fs, hm, rfl, rfl, HF, HN2, HB2, HX2⟩ := hrel
        have hcb := HX2.out.cell
        have hnx : nx R m ≤ 65536 := by
          rcases Nat.eq_zero_or_pos m with rfl | hp
          · simp [nx]
          · have h1 := code_lt R hG (m - 1) (R (m - 1)).length (by omega) (Nat.le_refl _)
            have h2 : (2 : Nat) ^ (m - 1) ≤ 2 ^ 16 := Nat.pow_le_pow_right (by omega) (by omega)
            have h3 : nx R m = fst R (m - 1) + (R (m - 1)).length := by rw [← nx_succ]; congr 1; omega
            omega
        by_cases hlt : m < 17
        · have cv : wr.cell? ⟨g, m * 2 + 1, none⟩ = some (vs m) := by rw [Nat.mul_comm]; exact HN2.out.cV m hlt
          have cf : wr.cell? ⟨g, m * 2, none⟩ = some (.int .i64 (fs m)) := by rw [Nat.mul_comm]; exact HN2.out.cF m hlt
          have ff := HN2.out.fr (m * 2)
          have HFn := Lib.hid (fst_int R m)
          have HNn := Lib.hid (show nx R (m + 1) = 2 * nx R m + (R m).length from rfl)
          have hrl := hRl m
          rw [HL.out] at hrl
          obtain ⟨ra, rc, hv⟩ : ∃ ra rc, vs m = .slice ra (R m).length rc := by
            rcases own_nil_or (HN2.out.rows m hlt) with ⟨h1, h2⟩ | ⟨rb, rc, h1, _⟩
            · exact ⟨none, 0, by rw [h1, h2]⟩
            · exact ⟨_, rc, h1⟩
          rw [hv] at cv
          have HS3 := Lib.hid (HN2.out.setF m hlt (fst R m : Nat))
          have HB3 := Lib.hid (HB2.out.setCell (p := ⟨g, m * 2, none⟩) (by show w.heap.size ≤ g; exact HN2.out.hg) (.int .i64 (fst R m : Nat)))
          have HX3 := Lib.hid (boxed_setO HX2.out HXG.out (m * 2) (.int .i64 (fst R m : Nat)))
          have HF3 : Hid (∀ n, n < m + 1 → upd fs m (fst R m : Nat) n = (fst R n : Nat)) := Lib.hid (fun n hn => by
            by_cases hnm : n = m
            · subst hnm; rw [upd_same]
            · rw [upd_other _ _ _ _ hnm]; exact HF.out n (by omega))
          have cv3 : (wr.setCell ⟨g, m * 2, none⟩ (.int .i64 ((fst R m : Nat)))).cell? ⟨g, m * 2 + 1, none⟩ = some (.slice ra (R m).length rc) := by
            rw [← hv]
            have := HS3.out.cV m hlt
            rwa [Nat.mul_comm 2 m] at this
          rw [Nat.mul_comm 2 m] at HS3
          rw [HFn.out] at HS3 HB3 HX3 cv3 HF3
          clear hv
          generalize nx R m = q at *
          gi_wp2
          go_roundw
          case rel => exact ⟨m + 1, _, by omega, by go_num, int_eq (by rw [HNn.out]; omega), HF3, HS3, HB3, HX3⟩
          case measure => simp [intOf]; omega
        · obtain rfl : m = 17 := by omega
          have f35 := HN2.out.fr 35
          have c35 := HN2.out.cE
          have HN4 := Lib.hid (HN2.out.setE (nx R 17 : Nat))
          have HB4 := Lib.hid (HB2.out.setCell (p := ⟨g, 35, none⟩) (by show w.heap.size ≤ g; exact HN2.out.hg) (.int .i64 (nx R 17 : Nat)))
          have HX4 := Lib.hid (boxed_setO HX2.out HXG.out 35 (.int .i64 (nx R 17 : Nat)))
          have hcb4 := HX4.out.cell
          clear HN2 HB2 HX2 HN HB HX
          gi_wp2_with fail
          refine ⟨trivial, (inOrder_in Fence.wide 2 trivial rfl _ _ (.inr ⟨g, rfl⟩)).mono ?_⟩
          rintro e w' ⟨rfl, rfl⟩
          gi_wp2
          have hz4 : w.heap.size ≤ (wr.setCell ⟨g, 35, none⟩ (.int .i64 (nx R 17 : Nat))).heap.size := HB4.out.size
          have hXl : X < (wr.setCell ⟨g, 35, none⟩ (.int .i64 (nx R 17 : Nat))).heap.size := HX4.out.lt
          have hY : (wr.setCell ⟨g, 35, none⟩ (.int .i64 (nx R 17 : Nat))).heap.size = wr.heap.size := by simp
          rw [hY] at hz4 hXl
          obtain ⟨W4, hW4⟩ : ∃ W4, W4 = wr.setCell ⟨g, 35, none⟩ (.int .i64 (nx R 17 : Nat)) := ⟨_, rfl⟩
          rw [← hW4] at HN4 HB4 HX4 hcb4 hY ⊢
          have HN5 := Lib.hid (HN4.out.mono (below_alloc W4 (.cells #[.pointer (some ⟨g, 0, none⟩)] 116)))
          have HB5 := Lib.hid (HB4.out.alloc HB4.out.size (.cells #[.pointer (some ⟨g, 0, none⟩)] 116))
          have HX5 := Lib.hid (HX4.out.alloc (.cells #[.pointer (some ⟨g, 0, none⟩)] 116))
          have hxY : Boxed (W4.alloc (.cells #[.pointer (some ⟨g, 0, none⟩)] 116)) W4.heap.size 116 (.pointer (some ⟨g, 0, none⟩)) := Boxed.new W4 _ _
          have hz5 : (W4.alloc (.cells #[.pointer (some ⟨g, 0, none⟩)] 116)).heap.size = wr.heap.size + 1 := by rw [World.size_alloc, hY]
          rw [hY] at hxY
          clear HN4 HB4 HX4 hcb4 f35 c35
          revert HN5 HB5 HX5 hxY hz5
          generalize W4.alloc (.cells #[.pointer (some ⟨g, 0, none⟩)] 116) = W5
          intro HN5 HB5 HX5 hxY hz5
          clear hW4 hY
          generalize wr.heap.size = Y at *
          have hUb : ∀ k, wv.ownBlock = some k → k < W5.heap.size := fun k hk => (HN5.out.words.lt k hk).2
          have hstp := inOrder_stops Fence.wide 2 trivial rfl (by omega) Y g w.heap.size (fun k => wv.ownBlock = some k) fs vs wv (nx R 17 : Nat) R (fun n hn => HF.out n hn)
            (fun n hn => by have h1 := code_lt R hG n (R n).length (by omega) (Nat.le_refl _); have h2 : (2 : Nat) ^ n ≤ 2 ^ 16 := Nat.pow_le_pow_right (by omega) (by omega); omega)
            (fun k ⟨n, hn, hk⟩ he => HN5.out.wdj n hn k hk he) W5 hxY.cell hxY.lt HN5.out.blk HN5.out.rows hUb
          refine wpIn_rangeFunc_ownH rfl (by omega) (gf := 116) (lb := #[.pointer (some ⟨Y, 0, none⟩)]) rfl trivial (enters_of Tryd.func116 (by kernel_rfl) rfl)
            hstp ?hKt ?hKb (Below.refl _ _) (fun _ => rfl)
            (fun pre W => NB W w.heap.size g fs vs wv (nx R 17 : Nat) R (wsOf (pre.map Em.x) len2) ∧ Below w.heap.size w W ∧ Boxed W X 116 (.pointer (some ⟨g, 0, none⟩)) ∧ W5.heap.size ≤ W.heap.size)
            (fun _ _ _ => False) ?hI (fun _ _ _ _ _ hs _ _ => hs) ?h0
            (fun x a' W => ∃ Bx, W5.heap.size ≤ Bx ∧ W.heap[Bx]? = some (.cells #[.int .i64 (x.x.c : Nat), .int .i64 (x.x.n : Nat)] 204 (0, 0)) ∧ a' = { tmps := #[.slice a len cap, .slice b len2 cap2, undef, undef, .pointer none, .pointer (some ⟨X, 0, none⟩), undef, u7, u8, u9, .int .i64 (nx R 17 : Nat), u11, u12, .int .i64 (x.x.s : Nat), .pointer (some ⟨Bx, 0, none⟩), .slice b len2 cap2, .int .i64 len2, wv, u18,
              .pointer (some ⟨g, 0, none⟩), .slice a len cap, .int .i64 len, .int .i64 len, .bool false, u24, u25, u26, u27, u28, u29, u30, u31, u32, u33, u34, u35, u36, u37, u38, u39, u40, u41, u42, u43, u44, u45, u46, u47, .int .i64 17, .bool false, u50, u51, u52, u53, u54, u55, u56, u57, u58, u59, u60, u61, u62, u63, u64, u65, u66, u67, u68, u69,
              .pointer (some ⟨g, 0, none⟩), .int .i64 (nx R 17 : Nat), .pointer (some ⟨g, 0, none⟩), .pointer (some ⟨g, 35, none⟩), .pointer (some ⟨g, 0, none⟩), .func (.func 116) #[] #[.pointer (some ⟨Y, 0, none⟩)],
              .int .i64 (x.x.s : Nat), .agg #[.int .i64 (x.x.c : Nat), .int .i64 (x.x.n : Nat)], undef, undef, undef, undef, undef, undef, undef, undef], defers := [] })
            ?hAx ?assign ?body ?done ?stop
          case hKt => exact fun h1 h2 => h1.trans h2
          case hKb => exact fun W l o o' _ hl hc _ => Kc.put W l o o' hl hc
          case hI =>
            rintro s A C row ⟨h1, h2, h3, h4⟩ hg hr
            have c := kc_cells hg (fun r e => (hr r e).2)
            exact ⟨h1.kc c (fun h => h) (fun _ _ h => h) (fun _ _ h => h), h2.grown hg h2.size (fun r e => by have := (hr r e).1; have := HB5.out.size; omega), c X _ h3 rfl (fun h => h), Nat.le_trans h4 hg.size⟩
          case h0 => exact ⟨by rw [List.map_nil, wsOf_nil]; exact HN5.out, HB5.out, HX5.out, Nat.le_refl _⟩
          case hAx =>
            rintro x a' s A C row ⟨Bx, h1, h2, h3⟩ hg hr
            exact ⟨Bx, h1, kc_cells hg (fun r e => (hr r e).2) Bx _ h2 rfl (fun h => h), h3⟩
          case assign =>
            rintro l' pre x W K ⟨h1, h2, h3, h4⟩ hK
            simp only [Em.encs]
            gi_wp2
            refine hK _ _ ((KeepsOthers.alloc _ _).from _) (Kc.alloc _ _ _) ⟨h1.mono (below_alloc W _), h2.alloc h2.size _, h3.alloc _, by simp; omega⟩ ⟨W.heap.size, h4, World.alloc_heap_new W _, rfl⟩
          case body =>
            rintro l' pre x a' W hl' ⟨r, hr⟩ ⟨h1, h2, h3, h4⟩ ⟨Bx, hBx, hbx, rfl⟩ hlen
            have hsn : x.x.s < len2 := by
              have := x.mem
              exact seq_sym l ord len2 HSO.out x.x (by rw [HRR.out]; exact this)
            obtain ⟨wb, wc, hwv⟩ : ∃ wb wc, wv = .slice (some ⟨wb, 0, none⟩) len2 wc := by
              have := h1.words
              rw [wsOf_length] at this
              rcases own_nil_or this with ⟨_, h⟩ | ⟨wb, wc, h, _⟩
              · omega
              · exact ⟨wb, wc, h⟩
            subst hwv
            obtain ⟨C, hC, hCs⟩ := h1.wcell (wsOf_length _ _)
            have hcx := h3.cell
            have hc34 := h1.cW
            have e0 : W.cell? ⟨Bx, 0, none⟩ = some (.int .i64 (x.x.c : Nat)) := by rw [cell_of_row _ _ _ _ _ (0, 0) hbx]; rfl
            have e1 : W.cell? ⟨Bx, 1, none⟩ = some (.int .i64 (x.x.n : Nat)) := by rw [cell_of_row _ _ _ _ _ (0, 0) hbx]; rfl
            obtain ⟨z0, g0⟩ : ∃ z, W.cell? ⟨wb, x.x.s * 2, none⟩ = some z := ⟨_, by rw [cell_of_row _ _ _ _ _ (0, 0) hC]; exact Array.getElem?_eq_getElem (by omega)⟩
            obtain ⟨z1, g1⟩ : ∃ z, W.cell? ⟨wb, x.x.s * 2 + 1, none⟩ = some z := ⟨_, by rw [cell_of_row _ _ _ _ _ (0, 0) hC]; exact Array.getElem?_eq_getElem (by omega)⟩
            have f0 := frozen_of_row W wb (x.x.s * 2) _ _ hC
            have f1 := frozen_of_row W wb (x.x.s * 2 + 1) _ _ hC
            have H1 := Lib.hid h1
            have HN := Lib.hid (h1.word (wsOf_length _ _) x.x.s x.x.c x.x.n)
            rw [wsOf_set] at HN
            have HEQ : Hid (pre.map Em.x ++ [x.x] = (pre ++ [x]).map Em.x) := Lib.hid (by rw [List.map_append]; rfl)
            rw [HEQ.out] at HN
            generalize hpx : (pre ++ [x]) = px at *
            have hHB2 := Lib.hid h2
            have hHX := Lib.hid h3
            have hwbB : Hid (w.heap.size ≤ wb) := Lib.hid ((H1.out.words.lt wb rfl).1)
            have hXw : Hid (X ≠ wb) := Lib.hid (fun e => by
              obtain ⟨C', hC', _⟩ := H1.out.wcell (wsOf_length _ _)
              have h3' : W.heap[X]? = _ := h3
              rw [e, hC'] at h3'
              simp at h3')
            clear h1 hC HEQ hpx hlen h2 h3
            generalize x.x.s = xs at *
            generalize x.x.c = xc at *
            generalize x.x.n = xn at *
            have hsz : W.heap.size = ((W.setCell ⟨wb, xs * 2, none⟩ (.int .i64 (xc : Nat))).setCell ⟨wb, xs * 2 + 1, none⟩ (.int .i64 (xn : Nat))).drew.heap.size := by
              show _ = ((W.setCell ⟨wb, xs * 2, none⟩ (.int .i64 (xc : Nat))).setCell ⟨wb, xs * 2 + 1, none⟩ (.int .i64 (xn : Nat))).heap.size
              simp
            have HEND := Lib.hid (show ownPostG W5.heap.size (Kc fun k => (Value.slice (some ⟨wb, 0, none⟩) len2 wc).ownBlock = some k)
                (fun pre W => NB W w.heap.size g fs vs (.slice (some ⟨wb, 0, none⟩) len2 wc) (nx R 17 : Nat) R (wsOf (pre.map Em.x) len2) ∧ Below w.heap.size w W ∧ Boxed W X 116 (.pointer (some ⟨g, 0, none⟩)) ∧ W5.heap.size ≤ W.heap.size)
                (fun _ _ _ => False) px W .normal { tmps := #[], defers := [] } ((W.setCell ⟨wb, xs * 2, none⟩ (.int .i64 (xc : Nat))).setCell ⟨wb, xs * 2 + 1, none⟩ (.int .i64 (xn : Nat))).drew from
              ⟨((KeepsOthers.setCell W _ _).trans ((KeepsOthers.setCell _ _ _).trans (KeepsOthers.drew _))).from _, kc_set2 W wb _ _ _ _ _ rfl,
                HN.out.mono (drew_is _), ((hHB2.out.setCell (p := ⟨wb, xs * 2, none⟩) hwbB.out _).setCell (p := ⟨wb, xs * 2 + 1, none⟩) hwbB.out _).drew, boxed_setO (boxed_setO hHX.out hXw.out _ _) hXw.out _ _, by rw [← hsz]; exact h4⟩)
            clear hsz HN hHB2 hHX hwbB hXw H1 hstp h4 hbx HB5 HX5 HN5
            gi_wp2
            have hmix : Tryd.prog.follows .mixedOrders = true := by kernel_rfl
            gi_region_with_o (fail)
            all_goals gi_wp2
            all_goals exact HEND.out
          case done =>
            rintro D ys W hD hS ⟨h1, h2, h3, h4⟩ hK
            have hcx := h3.cell
            have HP : Hid (NewBookPost w l ord (.returned (.pointer (some ⟨g, 0, none⟩))) (W.putObj D (.deferred none))) := Lib.hid (by
              have c := Kc.put (U := fun _ => False) W D _ (.deferred none) hK rfl
              refine ⟨g, fs, vs, wv, rfl, fun n hn => ?_, ?_, h2.grown (grownBy_putObj' W D (.deferred none)) h2.size (fun r e => by cases e; have := HB5.out.size; omega)⟩
              · rw [HRR.out]; exact HF.out n hn
              · have := h1.kc c (fun h => h) (fun _ _ h => h) (fun _ _ h => h)
                rw [hS] at this
                rw [HRR.out, HL2.out]; exact this)
            clear h1 h2 hstp HN5 HB5 HX5
            gi_wp2
            refine ⟨by simp, .inl ⟨_, _, rfl, run_takeDeferred hK, ?_⟩⟩
            exact ⟨_, results_tmp rfl _ _ _, by exact HP.out⟩
          case stop =>
            rintro D c pre W _ _ h _
            exact h.elim
end Bk
end Go.Proofs.YtfgpmccmalddjaaDoor
end

section
namespace Go.Proofs.YtfgpmccmalddjaaDoor
open Go.RowKit

namespace Bk
def rowsL (l : List Int) : Nat → List Nat := rowsOf l (List.range l.length)
theorem rowsL_succ (l : List Int) (n : Nat) : rowsL l (n + 1) = Cn.row l n l.length := by
  unfold rowsL rowsOf Cn.row
  rw [if_neg (by omega)]
theorem rowsL_zero (l : List Int) : rowsL l 0 = [] := rfl
theorem range_flat {α : Type} (f : Nat → List α) (h : f 0 = []) (m : Nat) : (List.range (m + 1)).flatMap f = (List.range m).flatMap fun n => f (n + 1) := by
  rw [List.range_succ_eq_map, List.flatMap_cons, h, List.nil_append, List.flatMap_map]
theorem sizR_of (l : List Int) : sizR (rowsL l) 17 = Cn.sizes l := by
  unfold sizR Cn.sizes Cn.sizN
  rw [range_flat _ (by rw [rowsL_zero]; rfl)]
  congr 1
  funext n
  rw [rowsL_succ, List.map_const']
theorem good_of (l : List Int) (h : Cn.freeB l = true) : Good (rowsL l) := by
  refine ⟨rfl, ?_⟩
  have h1 := (tog_seq (rowsL l) rfl 17 (Nat.le_refl _)).2
  rw [sizR_of] at h1
  simp only [Cn.freeB, Bool.and_eq_true, decide_eq_true_eq] at h
  rw [← h1, Cn.sum_sizes l h.1]
  exact h.2
theorem syms_of (l : List Int) : Cn.syms l = (seq (rowsL l) 17).map fun x => (x.s : Int) := by
  unfold Cn.syms Cn.symN seq
  have e := range_flat (fun n => (rowS (rowsL l) n (rowsL l n).length).map fun (x : It) => (x.s : Int)) (by rw [rowsL_zero]; rfl) 16
  rw [List.map_flatMap, e]
  congr 1
  funext n
  rw [rowsL_succ]
  unfold rowS it
  rw [List.map_map]
  apply List.ext_getElem
  · simp
  · intro i h1 h2
    simp only [List.getElem_map, List.getElem_range, Function.comp, rowsL_succ]
    rw [List.length_map] at h1
    simp [List.getD, List.getElem?_eq_getElem h1]
theorem codes_of (l : List Int) (h : Cn.freeB l = true) : Cn.codes (Cn.sizes l) = (seq (rowsL l) 17).map It.bits := by rw [← sizR_of]; exact codes_seq _ (good_of l h)
theorem seq_len (l : List Int) (x : It) (hx : x ∈ seq (rowsL l) 17) : x.s < l.length ∧ l.getD x.s 0 = (x.n : Int) ∧ 0 < x.n := by
  obtain ⟨m, i, _, hi, rfl⟩ := (mem_seq _ _ _).1 hx
  have : (rowsL l m).getD i 0 ∈ rowsL l m := by simp [List.getD, List.getElem?_eq_getElem hi]
  obtain ⟨h1, h2, h3⟩ := rowsOf_mem l _ m _ this
  exact ⟨List.mem_range.1 h1, h2, h3⟩
theorem seq_has (l : List Int) (s : Nat) (hs : s < l.length) (h : 0 < l.getD s 0 ∧ l.getD s 0 ≤ 16) : ∃ x ∈ seq (rowsL l) 17, x.s = s := by
  obtain ⟨n, hn⟩ := Int.eq_ofNat_of_zero_le (show 0 ≤ l.getD s 0 by omega)
  have hm : s ∈ rowsL l n := by
    unfold rowsL rowsOf
    rw [if_neg (by omega), List.mem_filter]
    exact ⟨List.mem_range.2 hs, by rw [hn]; simp⟩
  obtain ⟨i, hi, e⟩ := List.getElem_of_mem hm
  exact ⟨it (rowsL l) n i, (mem_seq _ _ _).2 ⟨n, i, by omega, hi, rfl⟩, by simp [it, List.getD, List.getElem?_eq_getElem hi, e]⟩
theorem look_none (l : List Int) (s : Nat) (h : l.getD s 0 = 0 ∨ l.length ≤ s) : look (seq (rowsL l) 17) s = (0, 0) := by
  rcases look_mem (seq (rowsL l) 17) s with ⟨h1, _⟩ | ⟨x, hx, h1, _⟩
  · exact h1
  · obtain ⟨h2, h3, h4⟩ := seq_len l x hx
    rw [h1] at h2 h3
    rcases h with h | h <;> omega
theorem look_some (l : List Int) (s : Nat) (hs : s < l.length) (h : 0 < l.getD s 0 ∧ l.getD s 0 ≤ 16) : ∃ m i, m < 17 ∧ i < (rowsL l m).length ∧ (rowsL l m).getD i 0 = s ∧ l.getD s 0 = (m : Int) ∧ look (seq (rowsL l) 17) s = (fst (rowsL l) m + i, m) := by
  rcases look_mem (seq (rowsL l) 17) s with ⟨_, h2⟩ | ⟨x, hx, h1, h2⟩
  · obtain ⟨x, hx, h3⟩ := seq_has l s hs h
    exact absurd h3 (h2 x hx)
  · obtain ⟨_, h4, _⟩ := seq_len l x hx
    obtain ⟨m, i, hm, hi, rfl⟩ := (mem_seq _ _ _).1 hx
    refine ⟨m, i, hm, hi, h1, ?_, h2⟩
    rw [← h1]; exact h4
end Bk
end Go.Proofs.YtfgpmccmalddjaaDoor
end

section
namespace Go.Proofs.YtfgpmccmalddjaaDoor
open Go.RowKit

theorem errno_shr (n : Nat) (hn : n ≤ 16) : (65536 : Int) / 2 ^ n = ((65536 / 2 ^ n : Nat) : Int) := by rw [Bt.pow_cast]; exact (Int.natCast_ediv 65536 (2 ^ n)).symm
def FreePost (w : World) (l : List Int) (e : Ending) (w' : World) : Prop :=
  e = .returned (.tuple (if Cn.freeB l then #[.int .i64 (65536 - (Cn.sum l : Int)), .nilIface] else #[.int .i64 0, .iface 39 (.int .i64 6)])) ∧ w = w'
theorem free_no (w : World) (l : List Int) (h : Cn.freeB l = false) : FreePost w l (.returned (.tuple #[.int .i64 0, .iface 39 (.int .i64 6)])) w := by
  unfold FreePost; rw [h]; exact ⟨rfl, rfl⟩
theorem free_yes (w : World) (l : List Int) (h : Cn.freeB l = true) (n : Int) (hn : n = 65536 - (Cn.sum l : Int)) : FreePost w l (.returned (.tuple #[.int .i64 n, .nilIface])) w := by
  subst hn; unfold FreePost; rw [h]; exact ⟨rfl, rfl⟩
set_option maxHeartbeats 1000000 in
theorem free_any (a : Option Addr) (len cap : Nat) (l : List Int) (w : World) (h : Is .i64 w a len cap l) (hr : len ≤ 140737488355328) :
    Calls Tryd.prog 104 #[.slice a len cap] w (FreePost w l) := by
  have HL := Lib.hid h.hlen
  have H := Lib.hid h
  clear h
  by_cases hbig : 512 < len
  · have d1 : decide (512 < (len : Int)) = true := by simp; omega
    have hf := Cn.form_big l (by rw [HL.out]; exact hbig)
    have HX := Lib.hid (free_no w l (by simp [Cn.freeB, hf]))
    clear hf
    go_enter Tryd.func104, Tryd.ntmps104
    go_wp2
    go_ret2
    exact HX.out
  · have d1 : decide (512 < (len : Int)) = false := by simp; omega
    go_enter Tryd.func104, Tryd.ntmps104
    go_wp2
    go_loop [4, 13] (fun s i => ∃ k : Nat, k ≤ len ∧ i = .int .i64 k ∧ s = .int .i64 (65536 - (Cn.sum (l.take k) : Int)) ∧ Hid (∀ j, j < k → 0 ≤ l.getD j 0 ∧ l.getD j 0 ≤ 16)) (fun _ i => len - (intOf i).toNat)
    case atStart => exact ⟨0, by omega, rfl, rfl, Lib.hid (fun j hj => absurd hj (by omega))⟩
    case round =>
      obtain ⟨k, hk, rfl, rfl, HG⟩ := hrel
      have hsum : Cn.sum (l.take k) ≤ 33554432 := by have := Cn.sum_le (l.take k); have h2 : (l.take k).length ≤ 512 := by simp; omega
                                                     omega
      by_cases hlt : k < len
      · obtain ⟨b, off, rfl, hb, hcell⟩ := H.out.at' k hlt
        have hkl : k < l.length := by rw [HL.out]; exact hlt
        have HS := Lib.hid (show Cn.sum (l.take (k + 1)) = Cn.sum (l.take k) + Cn.part (l.getD k 0) by rw [ints_snoc l k hkl, Cn.sum_snoc])
        have HB := Lib.hid (Cn.form_bad l k hkl)
        have HG2 := Lib.hid (show 0 ≤ l.getD k 0 ∧ l.getD k 0 ≤ 16 → ∀ j, j < k + 1 → 0 ≤ l.getD j 0 ∧ l.getD j 0 ≤ 16 from fun hx j hj => by
          by_cases hjk : j < k
          · exact HG.out j hjk
          · obtain rfl : j = k := by omega
            exact hx)
        clear hkl
        generalize hz : l.getD k 0 = z at *
        have HZ := Lib.hid hz
        clear hz
        generalize Cn.sum (l.take k) = s at *
        by_cases hneg : z < 0
        · have dz : decide (z < 0) = true := by simpa using hneg
          have HX := Lib.hid (free_no w l (by simp [Cn.freeB, HB.out (.inl hneg)]))
          clear hneg
          go_wp2
          go_ret2
          exact HX.out
        · have dz : decide (z < 0) = false := by simpa using hneg
          by_cases hhi : 16 < z
          · have dh : decide (16 < z) = true := by simpa using hhi
            have HX := Lib.hid (free_no w l (by simp [Cn.freeB, HB.out (.inr hhi)]))
            clear hneg hhi
            go_wp2
            go_ret2
            exact HX.out
          · have dh : decide (16 < z) = false := by simpa using hhi
            have HG3 := Lib.hid (HG2.out ⟨by omega, by omega⟩)
            by_cases hz0 : z = 0
            · subst hz0
              have e0 : Cn.part 0 = 0 := rfl
              clear hneg hhi
              go_wp2
              go_round
              case rel => exact ⟨k + 1, by omega, by go_num, int_eq (by rw [HS.out, e0]; rfl), HG3⟩
              case measure => simp [intOf]; omega
            · obtain ⟨n, rfl⟩ := Int.eq_ofNat_of_zero_le (show 0 ≤ z by omega)
              have hn : n ≤ 16 := by omega
              have dpos : decide (0 < n) = true := by simp; omega
              have dpos2 : 0 < n := by omega
              have dn0 : decide ((n : Int) < 0) = false := by simp
              have ep : Cn.part (n : Int) = 65536 / 2 ^ n := by unfold Cn.part; rw [if_neg (by omega)]; rfl
              have hq : 65536 / 2 ^ n ≤ 65536 := Nat.div_le_self _ _
              have HN := Lib.hid (errno_shr n hn)
              have EP := Lib.hid ep
              clear hneg hhi hz0 ep
              go_wp2
              go_round
              case rel =>
                refine ⟨k + 1, by omega, by go_num, int_eq ?_, HG3⟩
                rw [HS.out, EP.out, HN.out]
                generalize 65536 / 2 ^ n = q at *
                rw [IntWalk.wrap64_in _ ⟨by omega, by omega⟩]
                omega
              case measure => simp [intOf]; omega
      · obtain rfl : len = k := by omega
        have hfull : l.take len = l := List.take_of_length_le (by rw [HL.out]; exact Nat.le_refl _)
        rw [hfull] at hsum
        have hf := Cn.form_good l (by rw [HL.out]; omega) (fun j hj => HG.out j (by rw [HL.out] at hj; exact hj))
        have HX := Lib.hid (show Cn.freeB l = decide (Cn.sum l ≤ 65536) by simp [Cn.freeB, hf])
        have HFU := Lib.hid hfull
        clear hf hfull HG
        rw [HFU.out]
        by_cases hs : Cn.sum l ≤ 65536
        · have ds : decide ((65536 : Int) - (Cn.sum l : Int) < 0) = false := by simp; omega
          have HD := Lib.hid (free_yes w l (by rw [HX.out]; simpa using hs) _ rfl)
          clear hs
          generalize Cn.sum l = s at *
          go_wp2
          go_ret2
          exact HD.out
        · have ds : decide ((65536 : Int) - (Cn.sum l : Int) < 0) = true := by simp; omega
          have HD := Lib.hid (free_no w l (by rw [HX.out]; simpa using hs))
          clear hs
          generalize Cn.sum l = s at *
          go_wp2
          go_ret2
          exact HD.out
end Go.Proofs.YtfgpmccmalddjaaDoor
end
