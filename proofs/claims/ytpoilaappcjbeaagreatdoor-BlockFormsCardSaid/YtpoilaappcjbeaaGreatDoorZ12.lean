/- canon.newBook: its contract. Runs of lengths, and what they come to. Runs that stand for so many of one length. Which runs a stretch is laid in. The runs of lengths. -/
import Derived.Test.YtpoilaappcjbeaaGreatDoorZ11
set_option linter.unusedSimpArgs false
set_option linter.unusedVariables false
section
namespace Go.Proofs.YtpoilaappcjbeaaGreatDoor
open Go.RowKit Go.Shelf
attribute [local go_sem] Oper.semAt_some
namespace Bk
theorem tyW : RowTy Tryz.prog 168 154 (.agg #[.int .i64 0, .int .i64 0]) 2 16 := ⟨Tryz.underlying168, by kernel_rfl, rfl, by omega⟩
def wsOf (xs : List It) (n : Nat) : List (Nat × Nat) := (List.range n).map (look xs)
def NewBookPost (w : World) (l : List Int) (ord : List Nat) (e : Ending) (w' : World) : Prop :=
  ∃ (g : Nat) (fs : Nat → Int) (vs : Nat → Value) (wv : Value), e = .returned (.pointer (some ⟨g, 0, none⟩)) ∧ (∀ n, n < 17 → fs n = (fst (rowsOf l ord) n : Nat)) ∧ NB w' w.heap.size g fs vs wv (nx (rowsOf l ord) 17) (rowsOf l ord) (wsOf (seq (rowsOf l ord) 17) l.length) ∧ Below w.heap.size w w'
theorem fst_int (R : Nat → List Nat) (m : Nat) : ((fst R m : Nat) : Int) = ((nx R m : Nat) : Int) * 2 := by
  have : fst R m = 2 * nx R m := rfl
  omega
theorem wsOf_length (xs : List It) (n : Nat) : (wsOf xs n).length = n := by simp [wsOf]
theorem wsOf_nil (n : Nat) : wsOf [] n = List.replicate n (0, 0) := by
  rw [List.eq_replicate_iff]
  refine ⟨wsOf_length _ _, fun b hb => ?_⟩
  simp only [wsOf, List.mem_map] at hb
  obtain ⟨i, _, rfl⟩ := hb
  rfl
theorem wsOf_set (xs : List It) (n : Nat) (x : It) : (wsOf xs n).set x.s (x.c, x.n) = wsOf (xs ++ [x]) n := by
  apply List.ext_getElem?
  intro i
  rw [List.getElem?_set, wsOf_length]
  by_cases hi : i < n
  · have e1 : (wsOf xs n)[i]? = some (look xs i) := by simp [wsOf, List.getElem?_range hi]
    have e2 : (wsOf (xs ++ [x]) n)[i]? = some (look (xs ++ [x]) i) := by simp [wsOf, List.getElem?_range hi]
    rw [e1, e2, look_snoc]
    by_cases h : x.s = i
    · rw [if_pos h, if_pos (by omega), if_pos h]
    · rw [if_neg h, if_neg h]
  · have e1 : (wsOf xs n)[i]? = none := by rw [List.getElem?_eq_none]; rw [wsOf_length]; omega
    have e2 : (wsOf (xs ++ [x]) n)[i]? = none := by rw [List.getElem?_eq_none]; rw [wsOf_length]; omega
    rw [e1, e2]
    split
    · rw [if_neg (by omega)]
    · rfl
theorem wvs_set (ws : List (Nat × Nat)) (i c n : Nat) : ((wvs ws).set (i * 2) (.int .i64 (c : Nat))).set (i * 2 + 1) (.int .i64 (n : Nat)) = wvs (ws.set i (c, n)) := by
  induction ws generalizing i with
  | nil => simp [wvs]
  | cons p ws ih =>
    have e : wvs (p :: ws) = .int .i64 (p.1 : Nat) :: .int .i64 (p.2 : Nat) :: wvs ws := rfl
    cases i with
    | zero => rw [e]; rfl
    | succ i =>
      rw [e, show (i + 1) * 2 = i * 2 + 2 by omega]
      simp only [List.set_cons_succ]
      rw [ih i]; rfl
theorem NB.kc {U : Nat → Prop} {w w' : World} {B g : Nat} {fs : Nat → Int} {vs : Nat → Value} {wv : Value} {e : Int} {R : Nat → List Nat} {ws : List (Nat × Nat)} (h : NB w B g fs vs wv e R ws) (c : Kc U w w') (h1 : ¬ U g) (h2 : ∀ k, wv.ownBlock = some k → ¬ U k) (h3 : ∀ k, Tr vs k → ¬ U k) : NB w' B g fs vs wv e R ws :=
  ⟨c g _ h.blk rfl h1, h.rows.kept c h3, own_kc h.words c h2, h.hg, h.dj, h.ne, h.wne, h.wdj⟩
/-- A symbol's code is written. -/
theorem NB.word {w : World} {B g wb wc : Nat} {fs : Nat → Int} {vs : Nat → Value} {e : Int} {R : Nat → List Nat} {ws : List (Nat × Nat)} {len : Nat} (h : NB w B g fs vs (.slice (some ⟨wb, 0, none⟩) len wc) e R ws) (hl : ws.length = len) (i c n : Nat) :
    NB ((w.setCell ⟨wb, i * 2, none⟩ (.int .i64 (c : Nat))).setCell ⟨wb, i * 2 + 1, none⟩ (.int .i64 (n : Nat))) B g fs vs (.slice (some ⟨wb, 0, none⟩) len wc) e R (ws.set i (c, n)) := by
  have c1 := ch_set w wb (i * 2) (.int .i64 (c : Nat))
  have c2 := ch_set (w.setCell ⟨wb, i * 2, none⟩ (.int .i64 (c : Nat))) wb (i * 2 + 1) (.int .i64 (n : Nat))
  have cc := c1.trans c2 (fun k hk => .inl hk)
  have hwg : wb ≠ g := fun e => h.wne (by rw [e]; rfl)
  refine ⟨by rw [cc.block g h.lt (fun e => hwg e.symm)]; exact h.blk, fun m hm => cc.own (h.rows m hm) (fun k hk e => h.wdj m hm k hk (by rw [e]; rfl)), ?_, h.hg, h.dj, h.ne, h.wne, h.wdj⟩
  have h1 := h.words
  subst hl
  have h2 := (h1.stored (i * 2) (.int .i64 (c : Nat))).1
  have h3 := (h2.stored (i * 2 + 1) (.int .i64 (n : Nat))).1
  rw [wvs_set] at h3
  rw [List.length_set]; exact h3
theorem NB.wcell {w : World} {B g wb wc : Nat} {fs : Nat → Int} {vs : Nat → Value} {e : Int} {R : Nat → List Nat} {ws : List (Nat × Nat)} {len : Nat} (h : NB w B g fs vs (.slice (some ⟨wb, 0, none⟩) len wc) e R ws) (hl : ws.length = len) :
    ∃ C, w.heap[wb]? = some (.cells C 154 (0, 0)) ∧ len * 2 ≤ C.size := by
  have h1 := h.words
  subst hl
  rcases h1.2 with ⟨h2, _⟩ | ⟨g2, cap, cur, h2, _, hg, hle, _, hsz, _⟩
  · simp at h2
  · simp only [Value.slice.injEq, Option.some.injEq, Addr.mk.injEq, and_true, true_and] at h2
    obtain ⟨rfl, rfl⟩ := h2
    exact ⟨cur, hg, by omega⟩
theorem seq_sym (l : List Int) (ord : List Nat) (n : Nat) (hs : ∀ s ∈ ord, s < n) (x : It) (hx : x ∈ seq (rowsOf l ord) 17) : x.s < n := by
  obtain ⟨m, i, _, hi, rfl⟩ := (mem_seq _ _ _).1 hx
  have : (rowsOf l ord m).getD i 0 ∈ rowsOf l ord m := by simp [List.getD, List.getElem?_eq_getElem hi]
  exact hs _ (rowsOf_mem l ord m _ this).1
theorem drew_is (w : World) : Below w.heap.size w w.drew := ⟨rfl, rfl, rfl, Nat.le_refl _, fun _ _ => rfl⟩
theorem kc_set2 (W : World) (wb a b : Nat) (v1 v2 : Value) (U : Nat → Prop) (h : U wb) : Kc U W (((W.setCell ⟨wb, a, none⟩ v1).setCell ⟨wb, b, none⟩ v2).drew) :=
  Kc.drew (Kc.trans (Kc.set W ⟨wb, a, none⟩ h v1) (Kc.set (W.setCell ⟨wb, a, none⟩ v1) ⟨wb, b, none⟩ h v2))
theorem bk_zero (wv : Value) : (#[.int .i64 0, .slice none 0 0, .int .i64 0, .slice none 0 0, .int .i64 0, .slice none 0 0, .int .i64 0, .slice none 0 0, .int .i64 0, .slice none 0 0, .int .i64 0, .slice none 0 0, .int .i64 0, .slice none 0 0,
    .int .i64 0, .slice none 0 0, .int .i64 0, .slice none 0 0, .int .i64 0, .slice none 0 0, .int .i64 0, .slice none 0 0, .int .i64 0, .slice none 0 0, .int .i64 0, .slice none 0 0, .int .i64 0, .slice none 0 0, .int .i64 0, .slice none 0 0,
    .int .i64 0, .slice none 0 0, .int .i64 0, .slice none 0 0, wv, .int .i64 0] : Array Value) = bkCells (fun _ => 0) (fun _ => .slice none 0 0) wv 0 := rfl
set_option maxRecDepth 100000 in
set_option maxHeartbeats 4000000 in
theorem newBook_any (a : Option Addr) (len cap : Nat) (ord : List Nat) (b : Option Addr) (len2 cap2 : Nat) (l : List Int) (w : World) (h : Is .i64 w a len cap (sy ord)) (h2 : Is .i64 w b len2 cap2 l) (hl : len ≤ 1000000) (hl2 : len2 ≤ 1000000)
    (hs : ∀ s ∈ ord, s < len2) (hz : ∀ k, k < len2 → 0 ≤ l.getD k 0 ∧ l.getD k 0 ≤ 16) (hG : Good (rowsOf l ord)) :
    Calls Tryz.prog 115 #[.slice a len cap, .slice b len2 cap2] w (NewBookPost w l ord) := by
  have HL := Lib.hid (show ord.length = len by have := h.hlen; rwa [sy_length] at this)
  have HL2 := Lib.hid h2.hlen
  have H := Lib.hid h
  have H2 := Lib.hid h2
  have HS := Lib.hid hs
  have HZ := Lib.hid hz
  clear h h2 hs hz
  refine (callsIn_wide (n := 3)).1 ?_
  have hro : (Fence.wide).round = none := rfl
  refine callsIn_of_wp_marks Tryz.func115 rfl trivial ?_ hro
  simp only [Tryz.ntmps115, List.size_toArray, List.length_cons, List.length_nil, Nat.reduceAdd, Nat.reduceSub, Array.replicate_succ, Array.replicate_zero, List.push_toArray, List.append_toArray, List.nil_append, List.cons_append]
  gi_wp2_with (gi_at_make; refine wplIn_make_full tyW rfl _ _ rfl w.heap.size .i64 .i64 _ _ len2 rfl rfl rfl rfl (by omega) (by omega) (Nat.le_refl _) ?_)
  intro w1 own1 hg1
  have hb1 : Below w.heap.size w w1 := (Below.refl _ _).grown hg1 (Nat.le_refl _) (by simp)
  have hz1 := hb1.size
  have hz1' : w.heap.size < w1.heap.size := (own1.lt _ rfl).2
  rw [made_words] at own1
  gi_wp2
  rw [bk_zero]
  obtain ⟨w3, hw3⟩ : ∃ w3, w3 = (w1.alloc (.cells (bkCells (fun _ => 0) (fun _ => .slice none 0 0) (.slice (some ⟨w.heap.size, 0, none⟩) len2 len2) 0) 170)).alloc (.cells #[Value.pointer (some ⟨w1.heap.size, 0, none⟩)] 81) := ⟨_, rfl⟩
  rw [← hw3]
  have hb3 : Below w.heap.size w w3 := by rw [hw3]; exact (hb1.alloc hz1 _).alloc (by simp; omega) _
  have hnb3 : NB w3 w.heap.size w1.heap.size (fun _ => 0) (fun _ => .slice none 0 0) (.slice (some ⟨w.heap.size, 0, none⟩) len2 len2) 0 (rowsOf l []) (List.replicate len2 (0, 0)) := by
    subst hw3
    refine ⟨heap_alloc2_old _ _ _, fun n hn => ?_, ?_, hz1, fun n m _ _ _ k hk => by simp [Value.ownBlock] at hk, fun n _ => by simp [Value.ownBlock], fun e => by simp [Value.ownBlock] at e; omega, fun n _ k hk => by simp [Value.ownBlock] at hk⟩
    · have : rowsOf l [] n = [] := by unfold rowsOf; split <;> rfl
      rw [this]; exact World.ownsRow_nil _ _ _ _
    · rw [List.length_replicate]; exact (own1.alloc _).alloc _
  have hbox3 : Boxed w3 (w1.heap.size + 1) 81 (.pointer (some ⟨w1.heap.size, 0, none⟩)) := by rw [hw3]; exact heap_alloc2_new _ _ _
  clear hw3 own1 hg1 hb1
  generalize hX : w1.heap.size + 1 = X at *
  generalize w1.heap.size = g at *
  generalize Value.agg (bkCells (fun _ => 0) (fun _ => .slice none 0 0) (.slice (some ⟨w.heap.size, 0, none⟩) len2 len2) 0) = u18
  generalize Value.slice (some ⟨w.heap.size, 0, none⟩) len2 len2 = wv at *
  have HXG := Lib.hid (show X ≠ g by omega)
  have HXB := Lib.hid (show w.heap.size ≤ X by omega)
  have H3 := Lib.hid hnb3
  have HB3 := Lib.hid hb3
  have HX3 := Lib.hid hbox3
  clear hnb3 hb3 hbox3 hX hz1 hz1'
  gi_loopw [22] (fun i wr => ∃ (k : Nat) (vs : Nat → Value), k ≤ len ∧ i = .int .i64 k ∧ Hid (NB wr w.heap.size g (fun _ => 0) vs wv 0 (rowsOf l (ord.take k)) (List.replicate len2 (0, 0))) ∧ Hid (Below w.heap.size w wr) ∧ Hid (Boxed wr X 81 (.pointer (some ⟨g, 0, none⟩))) ∧ Hid (∀ n, n < 17 → (vs n).ownBlock ≠ some X))
    (fun i _ => len - (intOf i).toNat)
  case atStart => exact ⟨0, _, by omega, rfl, H3, HB3, HX3, Lib.hid (fun n _ => by simp [Value.ownBlock])⟩
  case round =>
    obtain ⟨k, vs, hk, rfl, HN, HB, HX, HV⟩ := hrel
    by_cases hlt : k < len
    · obtain ⟨rb, ro, rfl, _, c1⟩ := (H.out.mono HB.out).at' k hlt
      rw [sy_getD] at c1
      have hkl : k < ord.length := by rw [HL.out]; exact hlt
      have ht : ord.take (k + 1) = ord.take k ++ [ord.getD k 0] := by rw [List.take_succ_eq_append_getElem hkl]; simp [List.getD, List.getElem?_eq_getElem hkl]
      have hsl : ord.getD k 0 < len2 := HS.out _ (by simp [List.getD, List.getElem?_eq_getElem hkl])
      have HT := Lib.hid ht
      clear ht hkl
      generalize ord.getD k 0 = s at *
      obtain ⟨lb, lo, rfl, _, c2⟩ := (H2.out.mono HB.out).at' s hsl
      have hzr := HZ.out s hsl
      have hcb := HX.out.cell
      by_cases h0 : l.getD s 0 = 0
      · rw [h0] at c2
        have hR := Lib.hid (rowsOf_snoc_no l (ord.take k) s h0)
        clear h0 hzr
        gi_wp2
        go_roundw
        case rel => exact ⟨k + 1, vs, by omega, by go_num, Lib.hid (by rw [HT.out, hR.out]; exact HN.out), HB, HX, HV⟩
        case measure => simp [intOf]; omega
      · obtain ⟨n, hn⟩ := Int.eq_ofNat_of_zero_le hzr.1
        rw [hn] at c2
        have hn0 : 0 < n := by omega
        have hn17 : n < 17 := by omega
        have hR := Lib.hid (rowsOf_snoc l (ord.take k) s n hn0 hn)
        have dpos : decide ((0 : Int) < (n : Int)) = true := by simp; omega
        clear h0 hzr hn
        have hown := HN.out.rows n hn17
        have hle := rowsOf_le l (ord.take k) n
        rw [List.length_take] at hle
        have cv : wr.cell? ⟨g, n * 2 + 1, none⟩ = some (vs n) := by rw [Nat.mul_comm]; exact HN.out.cV n hn17
        have HNa := Lib.hid (HN.out.mono (below_alloc wr (.cells #[Value.int .i64 (s : Nat)] 3)))
        have hba : w.heap.size ≤ (wr.alloc (.cells #[Value.int .i64 (s : Nat)] 3)).heap.size := by have := HB.out.size; simp; omega
        have hsrc := src_int wr (s : Nat)
        have HBa := Lib.hid (HB.out.alloc HB.out.size (.cells #[Value.int .i64 (s : Nat)] 3))
        have HXa := Lib.hid (HX.out.alloc (.cells #[Value.int .i64 (s : Nat)] 3))
        gi_wp2_with (gi_at_builtin; refine wplIn_app tyI rfl _ _ rfl (HNa.out.rows n hn17) hsrc rfl rfl (by omega) (by omega) (by omega) hba ?_)
        intro v4 w4 own4 c4 f4
        rw [← ivs_append] at own4
        have own5 : w4.ownsRow w.heap.size 3 1 v4 ((rowsOf l (ord.take k) n).length + 1) (ivs (sy (rowsOf l (ord.take k) n ++ [s]))) := by rw [sy_append]; exact own4
        obtain ⟨g4, cap4, rfl⟩ := ownsRow_succ own4
        have HN5 := Lib.hid (HNa.out.push n hn17 s _ own5 c4 (by simpa using f4))
        have hb4 : Below w.heap.size w w4 := HBa.out.trans (c4.below hba (fun k hk => ((HNa.out.rows n hn17).lt k hk).1))
        have HB5 := Lib.hid (hb4.setCell (p := ⟨g, n * 2 + 1, none⟩) (by show w.heap.size ≤ g; exact HN.out.hg) (.slice (some ⟨g4, 0, none⟩) ((rowsOf l (ord.take k) n).length + 1) cap4))
        have hbx : Boxed w4 X 81 (.pointer (some ⟨g, 0, none⟩)) := (c4.block X HXa.out.lt (HV.out n hn17)).trans HXa.out
        have HX5 := Lib.hid (boxed_setO hbx HXG.out (n * 2 + 1) (.slice (some ⟨g4, 0, none⟩) ((rowsOf l (ord.take k) n).length + 1) cap4))
        have c5 : w4.cell? ⟨g, n * 2 + 1, none⟩ = some (vs n) := by
          rw [← cv]
          exact World.cell?_of_block (w := wr) (by rw [c4.block g HNa.out.lt (HN.out.ne n hn17)]; exact Below.heap_alloc wr _ g HN.out.lt)
        have f5 : w4.frozen? ⟨g, n * 2 + 1, none⟩ = false := by
          refine frozen_of_row w4 g _ (bkCells (fun _ => 0) vs wv 0) 170 ?_
          rw [c4.block g HNa.out.lt (HN.out.ne n hn17)]; exact HNa.out.blk
        have HV5 : Hid (∀ m, m < 17 → (upd vs n (Value.slice (some ⟨g4, 0, none⟩) ((rowsOf l (ord.take k) n).length + 1) cap4) m).ownBlock ≠ some X) := Lib.hid (fun m hm => by
          by_cases hmn : m = n
          · subst hmn
            rw [upd_same]
            intro e
            rcases f4 X e with h1 | h1
            · exact HV.out m hm h1
            · have := HX.out.lt; omega
          · rw [upd_other _ _ _ _ hmn]; exact HV.out m hm)
        rw [← hR.out, ← HT.out, Nat.mul_comm 2 n] at HN5
        clear own4 own5 c4 f4 hsrc HNa HBa HXa hba hb4 hbx cv hown
        gi_wp2
        go_roundw
        case rel => exact ⟨k + 1, _, by omega, by go_num, HN5, HB5, HX5, HV5⟩
        case measure => simp [intOf]; omega
    · obtain rfl : len = k := by omega
      rw [List.take_of_length_le (by rw [HL.out]; exact Nat.le_refl _)] at HN
      have hRl := fun n => rowsOf_le l ord n
      have HSO := HS
      clear H2 HZ H3 HB3 HX3
      generalize hRR : rowsOf l ord = R at *
      have HRR := Lib.hid hRR
      clear hRR
      gi_wp2
      gi_loopw [10, 48] (fun nxv i wr => ∃ (m : Nat) (fs : Nat → Int), m ≤ 17 ∧ i = .int .i64 m ∧ nxv = .int .i64 (nx R m : Nat) ∧ Hid (∀ n, n < m → fs n = (fst R n : Nat)) ∧ Hid (NB wr w.heap.size g fs vs wv 0 R (List.replicate len2 (0, 0))) ∧ Hid (Below w.heap.size w wr) ∧ Hid (Boxed wr X 81 (.pointer (some ⟨g, 0, none⟩))))
        (fun _ i _ => 17 - (intOf i).toNat)
      case atStart => exact ⟨0, _, by omega, rfl, rfl, Lib.hid (fun n hn => absurd hn (by omega)), HN, HB, HX⟩
      case round =>
        obtain ⟨m, fs, hm, rfl, rfl, HF, HN2, HB2, HX2⟩ := hrel
        have hcb := HX2.out.cell
        have hnx : nx R m ≤ 65536 := by
          rcases Nat.eq_zero_or_pos m with rfl | hp
          · simp [nx]
          · have h1 := code_lt R hG (m - 1) (R (m - 1)).length (by omega) (Nat.le_refl _)
            have h2 : (2 : Nat) ^ (m - 1) ≤ 2 ^ 16 := Nat.pow_le_pow_right (by omega) (by omega)
            have h3 : nx R m = fst R (m - 1) + (R (m - 1)).length := by rw [← nx_succ]; congr 1; omega
            omega
        by_cases hlt : m < 17
        · have cv : wr.cell? ⟨g, m * 2 + 1, none⟩ = some (vs m) := by rw [Nat.mul_comm]; exact HN2.out.cV m hlt
          have cf : wr.cell? ⟨g, m * 2, none⟩ = some (.int .i64 (fs m)) := by rw [Nat.mul_comm]; exact HN2.out.cF m hlt
          have ff := HN2.out.fr (m * 2)
          have HFn := Lib.hid (fst_int R m)
          have HNn := Lib.hid (show nx R (m + 1) = 2 * nx R m + (R m).length from rfl)
          have hrl := hRl m
          rw [HL.out] at hrl
          obtain ⟨ra, rc, hv⟩ : ∃ ra rc, vs m = .slice ra (R m).length rc := by
            rcases own_nil_or (HN2.out.rows m hlt) with ⟨h1, h2⟩ | ⟨rb, rc, h1, _⟩
            · exact ⟨none, 0, by rw [h1, h2]⟩
            · exact ⟨_, rc, h1⟩
          rw [hv] at cv
          have HS3 := Lib.hid (HN2.out.setF m hlt (fst R m : Nat))
          have HB3 := Lib.hid (HB2.out.setCell (p := ⟨g, m * 2, none⟩) (by show w.heap.size ≤ g; exact HN2.out.hg) (.int .i64 (fst R m : Nat)))
          have HX3 := Lib.hid (boxed_setO HX2.out HXG.out (m * 2) (.int .i64 (fst R m : Nat)))
          have HF3 : Hid (∀ n, n < m + 1 → upd fs m (fst R m : Nat) n = (fst R n : Nat)) := Lib.hid (fun n hn => by
            by_cases hnm : n = m
            · subst hnm; rw [upd_same]
            · rw [upd_other _ _ _ _ hnm]; exact HF.out n (by omega))
          have cv3 : (wr.setCell ⟨g, m * 2, none⟩ (.int .i64 ((fst R m : Nat)))).cell? ⟨g, m * 2 + 1, none⟩ = some (.slice ra (R m).length rc) := by
            rw [← hv]
            have := HS3.out.cV m hlt
            rwa [Nat.mul_comm 2 m] at this
          rw [Nat.mul_comm 2 m] at HS3
          rw [HFn.out] at HS3 HB3 HX3 cv3 HF3
          clear hv
          generalize nx R m = q at *
          gi_wp2
          go_roundw
          case rel => exact ⟨m + 1, _, by omega, by go_num, int_eq (by rw [HNn.out]; omega), HF3, HS3, HB3, HX3⟩
          case measure => simp [intOf]; omega
        · obtain rfl : m = 17 := by omega
          have f35 := HN2.out.fr 35
          have c35 := HN2.out.cE
          have HN4 := Lib.hid (HN2.out.setE (nx R 17 : Nat))
          have HB4 := Lib.hid (HB2.out.setCell (p := ⟨g, 35, none⟩) (by show w.heap.size ≤ g; exact HN2.out.hg) (.int .i64 (nx R 17 : Nat)))
          have HX4 := Lib.hid (boxed_setO HX2.out HXG.out 35 (.int .i64 (nx R 17 : Nat)))
          have hcb4 := HX4.out.cell
          clear HN2 HB2 HX2 HN HB HX
          gi_wp2_with fail
          refine ⟨trivial, (inOrder_in Fence.wide 2 trivial rfl _ _ (.inr ⟨g, rfl⟩)).mono ?_⟩
          rintro e w' ⟨rfl, rfl⟩
          gi_wp2
          have hz4 : w.heap.size ≤ (wr.setCell ⟨g, 35, none⟩ (.int .i64 (nx R 17 : Nat))).heap.size := HB4.out.size
          have hXl : X < (wr.setCell ⟨g, 35, none⟩ (.int .i64 (nx R 17 : Nat))).heap.size := HX4.out.lt
          have hY : (wr.setCell ⟨g, 35, none⟩ (.int .i64 (nx R 17 : Nat))).heap.size = wr.heap.size := by simp
          rw [hY] at hz4 hXl
          obtain ⟨W4, hW4⟩ : ∃ W4, W4 = wr.setCell ⟨g, 35, none⟩ (.int .i64 (nx R 17 : Nat)) := ⟨_, rfl⟩
          rw [← hW4] at HN4 HB4 HX4 hcb4 hY ⊢
          have HN5 := Lib.hid (HN4.out.mono (below_alloc W4 (.cells #[.pointer (some ⟨g, 0, none⟩)] 81)))
          have HB5 := Lib.hid (HB4.out.alloc HB4.out.size (.cells #[.pointer (some ⟨g, 0, none⟩)] 81))
          have HX5 := Lib.hid (HX4.out.alloc (.cells #[.pointer (some ⟨g, 0, none⟩)] 81))
          have hxY : Boxed (W4.alloc (.cells #[.pointer (some ⟨g, 0, none⟩)] 81)) W4.heap.size 81 (.pointer (some ⟨g, 0, none⟩)) := Boxed.new W4 _ _
          have hz5 : (W4.alloc (.cells #[.pointer (some ⟨g, 0, none⟩)] 81)).heap.size = wr.heap.size + 1 := by rw [World.size_alloc, hY]
          rw [hY] at hxY
          clear HN4 HB4 HX4 hcb4 f35 c35
          revert HN5 HB5 HX5 hxY hz5
          generalize W4.alloc (.cells #[.pointer (some ⟨g, 0, none⟩)] 81) = W5
          intro HN5 HB5 HX5 hxY hz5
          clear hW4 hY
          generalize wr.heap.size = Y at *
          have hUb : ∀ k, wv.ownBlock = some k → k < W5.heap.size := fun k hk => (HN5.out.words.lt k hk).2
          have hstp := inOrder_stops Fence.wide 2 trivial rfl (by omega) Y g w.heap.size (fun k => wv.ownBlock = some k) fs vs wv (nx R 17 : Nat) R (fun n hn => HF.out n hn)
            (fun n hn => by have h1 := code_lt R hG n (R n).length (by omega) (Nat.le_refl _); have h2 : (2 : Nat) ^ n ≤ 2 ^ 16 := Nat.pow_le_pow_right (by omega) (by omega); omega)
            (fun k ⟨n, hn, hk⟩ he => HN5.out.wdj n hn k hk he) W5 hxY.cell hxY.lt HN5.out.blk HN5.out.rows hUb
          refine wpIn_rangeFunc_ownH rfl (by omega) (gf := 130) (lb := #[.pointer (some ⟨Y, 0, none⟩)]) rfl trivial (enters_of Tryz.func130 (by kernel_rfl) rfl)
            hstp ?hKt ?hKb (Below.refl _ _) (fun _ => rfl)
            (fun pre W => NB W w.heap.size g fs vs wv (nx R 17 : Nat) R (wsOf (pre.map Em.x) len2) ∧ Below w.heap.size w W ∧ Boxed W X 81 (.pointer (some ⟨g, 0, none⟩)) ∧ W5.heap.size ≤ W.heap.size)
            (fun _ _ _ => False) ?hI (fun _ _ _ _ _ hs _ _ => hs) ?h0
            (fun x a' W => ∃ Bx, W5.heap.size ≤ Bx ∧ W.heap[Bx]? = some (.cells #[.int .i64 (x.x.c : Nat), .int .i64 (x.x.n : Nat)] 154 (0, 0)) ∧ a' = { tmps := #[.slice a len cap, .slice b len2 cap2, undef, undef, .pointer none, .pointer (some ⟨X, 0, none⟩), undef, u7, u8, u9, .int .i64 (nx R 17 : Nat), u11, u12, .int .i64 (x.x.s : Nat), .pointer (some ⟨Bx, 0, none⟩), .slice b len2 cap2, .int .i64 len2, wv, u18,
              .pointer (some ⟨g, 0, none⟩), .slice a len cap, .int .i64 len, .int .i64 len, .bool false, u24, u25, u26, u27, u28, u29, u30, u31, u32, u33, u34, u35, u36, u37, u38, u39, u40, u41, u42, u43, u44, u45, u46, u47, .int .i64 17, .bool false, u50, u51, u52, u53, u54, u55, u56, u57, u58, u59, u60, u61, u62, u63, u64, u65, u66, u67, u68, u69,
              .pointer (some ⟨g, 0, none⟩), .int .i64 (nx R 17 : Nat), .pointer (some ⟨g, 0, none⟩), .pointer (some ⟨g, 35, none⟩), .pointer (some ⟨g, 0, none⟩), .func (.func 130) #[] #[.pointer (some ⟨Y, 0, none⟩)],
              .int .i64 (x.x.s : Nat), .agg #[.int .i64 (x.x.c : Nat), .int .i64 (x.x.n : Nat)], undef, undef, undef, undef, undef, undef, undef, undef], defers := [] })
            ?hAx ?assign ?body ?done ?stop
          case hKt => exact fun h1 h2 => h1.trans h2
          case hKb => exact fun W l o o' _ hl hc _ => Kc.put W l o o' hl hc
          case hI =>
            rintro s A C row ⟨h1, h2, h3, h4⟩ hg hr
            have c := kc_cells hg (fun r e => (hr r e).2)
            exact ⟨h1.kc c (fun h => h) (fun _ _ h => h) (fun _ _ h => h), h2.grown hg h2.size (fun r e => by have := (hr r e).1; have := HB5.out.size; omega), c X _ h3 rfl (fun h => h), Nat.le_trans h4 hg.size⟩
          case h0 => exact ⟨by rw [List.map_nil, wsOf_nil]; exact HN5.out, HB5.out, HX5.out, Nat.le_refl _⟩
          case hAx =>
            rintro x a' s A C row ⟨Bx, h1, h2, h3⟩ hg hr
            exact ⟨Bx, h1, kc_cells hg (fun r e => (hr r e).2) Bx _ h2 rfl (fun h => h), h3⟩
          case assign =>
            rintro l' pre x W K ⟨h1, h2, h3, h4⟩ hK
            simp only [Em.encs]
            gi_wp2
            refine hK _ _ ((KeepsOthers.alloc _ _).from _) (Kc.alloc _ _ _) ⟨h1.mono (below_alloc W _), h2.alloc h2.size _, h3.alloc _, by simp; omega⟩ ⟨W.heap.size, h4, World.alloc_heap_new W _, rfl⟩
          case body =>
            rintro l' pre x a' W hl' ⟨r, hr⟩ ⟨h1, h2, h3, h4⟩ ⟨Bx, hBx, hbx, rfl⟩ hlen
            have hsn : x.x.s < len2 := by
              have := x.mem
              exact seq_sym l ord len2 HSO.out x.x (by rw [HRR.out]; exact this)
            obtain ⟨wb, wc, hwv⟩ : ∃ wb wc, wv = .slice (some ⟨wb, 0, none⟩) len2 wc := by
              have := h1.words
              rw [wsOf_length] at this
              rcases own_nil_or this with ⟨_, h⟩ | ⟨wb, wc, h, _⟩
              · omega
              · exact ⟨wb, wc, h⟩
            subst hwv
            obtain ⟨C, hC, hCs⟩ := h1.wcell (wsOf_length _ _)
            have hcx := h3.cell
            have hc34 := h1.cW
            have e0 : W.cell? ⟨Bx, 0, none⟩ = some (.int .i64 (x.x.c : Nat)) := by rw [cell_of_row _ _ _ _ _ (0, 0) hbx]; rfl
            have e1 : W.cell? ⟨Bx, 1, none⟩ = some (.int .i64 (x.x.n : Nat)) := by rw [cell_of_row _ _ _ _ _ (0, 0) hbx]; rfl
            obtain ⟨z0, g0⟩ : ∃ z, W.cell? ⟨wb, x.x.s * 2, none⟩ = some z := ⟨_, by rw [cell_of_row _ _ _ _ _ (0, 0) hC]; exact Array.getElem?_eq_getElem (by omega)⟩
            obtain ⟨z1, g1⟩ : ∃ z, W.cell? ⟨wb, x.x.s * 2 + 1, none⟩ = some z := ⟨_, by rw [cell_of_row _ _ _ _ _ (0, 0) hC]; exact Array.getElem?_eq_getElem (by omega)⟩
            have f0 := frozen_of_row W wb (x.x.s * 2) _ _ hC
            have f1 := frozen_of_row W wb (x.x.s * 2 + 1) _ _ hC
            have H1 := Lib.hid h1
            have HN := Lib.hid (h1.word (wsOf_length _ _) x.x.s x.x.c x.x.n)
            rw [wsOf_set] at HN
            have HEQ : Hid (pre.map Em.x ++ [x.x] = (pre ++ [x]).map Em.x) := Lib.hid (by rw [List.map_append]; rfl)
            rw [HEQ.out] at HN
            generalize hpx : (pre ++ [x]) = px at *
            have hHB2 := Lib.hid h2
            have hHX := Lib.hid h3
            have hwbB : Hid (w.heap.size ≤ wb) := Lib.hid ((H1.out.words.lt wb rfl).1)
            have hXw : Hid (X ≠ wb) := Lib.hid (fun e => by
              obtain ⟨C', hC', _⟩ := H1.out.wcell (wsOf_length _ _)
              have h3' : W.heap[X]? = _ := h3
              rw [e, hC'] at h3'
              simp at h3')
            clear h1 hC HEQ hpx hlen h2 h3
            generalize x.x.s = xs at *
            generalize x.x.c = xc at *
            generalize x.x.n = xn at *
            have hsz : W.heap.size = ((W.setCell ⟨wb, xs * 2, none⟩ (.int .i64 (xc : Nat))).setCell ⟨wb, xs * 2 + 1, none⟩ (.int .i64 (xn : Nat))).drew.heap.size := by
              show _ = ((W.setCell ⟨wb, xs * 2, none⟩ (.int .i64 (xc : Nat))).setCell ⟨wb, xs * 2 + 1, none⟩ (.int .i64 (xn : Nat))).heap.size
              simp
            have HEND := Lib.hid (show ownPostG W5.heap.size (Kc fun k => (Value.slice (some ⟨wb, 0, none⟩) len2 wc).ownBlock = some k)
                (fun pre W => NB W w.heap.size g fs vs (.slice (some ⟨wb, 0, none⟩) len2 wc) (nx R 17 : Nat) R (wsOf (pre.map Em.x) len2) ∧ Below w.heap.size w W ∧ Boxed W X 81 (.pointer (some ⟨g, 0, none⟩)) ∧ W5.heap.size ≤ W.heap.size)
                (fun _ _ _ => False) px W .normal { tmps := #[], defers := [] } ((W.setCell ⟨wb, xs * 2, none⟩ (.int .i64 (xc : Nat))).setCell ⟨wb, xs * 2 + 1, none⟩ (.int .i64 (xn : Nat))).drew from
              ⟨((KeepsOthers.setCell W _ _).trans ((KeepsOthers.setCell _ _ _).trans (KeepsOthers.drew _))).from _, kc_set2 W wb _ _ _ _ _ rfl,
                HN.out.mono (drew_is _), ((hHB2.out.setCell (p := ⟨wb, xs * 2, none⟩) hwbB.out _).setCell (p := ⟨wb, xs * 2 + 1, none⟩) hwbB.out _).drew, boxed_setO (boxed_setO hHX.out hXw.out _ _) hXw.out _ _, by rw [← hsz]; exact h4⟩)
            clear hsz HN hHB2 hHX hwbB hXw H1 hstp h4 hbx HB5 HX5 HN5
            gi_wp2
            have hmix : Tryz.prog.follows .mixedOrders = true := by kernel_rfl
            gi_region_with_o (fail)
            all_goals gi_wp2
            all_goals exact HEND.out
          case done =>
            rintro D ys W hD hS ⟨h1, h2, h3, h4⟩ hK
            have hcx := h3.cell
            have HP : Hid (NewBookPost w l ord (.returned (.pointer (some ⟨g, 0, none⟩))) (W.putObj D (.deferred none))) := Lib.hid (by
              have c := Kc.put (U := fun _ => False) W D _ (.deferred none) hK rfl
              refine ⟨g, fs, vs, wv, rfl, fun n hn => ?_, ?_, h2.grown (grownBy_putObj' W D (.deferred none)) h2.size (fun r e => by cases e; have := HB5.out.size; omega)⟩
              · rw [HRR.out]; exact HF.out n hn
              · have := h1.kc c (fun h => h) (fun _ _ h => h) (fun _ _ h => h)
                rw [hS] at this
                rw [HRR.out, HL2.out]; exact this)
            clear h1 h2 hstp HN5 HB5 HX5
            gi_wp2
            refine ⟨by simp, .inl ⟨_, _, rfl, run_takeDeferred hK, ?_⟩⟩
            exact ⟨_, results_tmp rfl _ _ _, by exact HP.out⟩
          case stop =>
            rintro D c pre W _ _ h _
            exact h.elim
end Bk
end Go.Proofs.YtpoilaappcjbeaaGreatDoor
end

section
namespace Go.Proofs.YtpoilaappcjbeaaGreatDoor
open Go.RowKit

namespace Bl
def base (y : Int) : Nat := if y = 16 then 3 else if y = 17 then 3 else if y = 18 then 11 else 1
def bits (y : Int) : Nat := if y = 16 then 2 else if y = 17 then 3 else if y = 18 then 7 else 0
def top (y : Int) : Int := if y = 16 then 3 else if y = 17 then 7 else if y = 18 then 127 else 0
/-- A run in form. -/
def ok (r : Int × Int) : Bool := decide (0 ≤ r.1 ∧ r.1 ≤ 18 ∧ 0 ≤ r.2 ∧ r.2 ≤ top r.1)
/-- The length that a run repeats. -/
def val (out : List Int) (y : Int) : Int := if y = 16 then out.getD (out.length - 1) 0 else if y < 16 then y else 0
def stp (out : List Int) (r : Int × Int) : Option (List Int) :=
  if ok r = true ∧ (r.1 = 16 → out.length ≠ 0) then some (out ++ List.replicate (base r.1 + r.2.toNat) (val out r.1)) else none
/-- The lengths of the first k runs. -/
def unr (f : Nat → Int × Int) : Nat → Option (List Int)
  | 0 => some []
  | k + 1 => (unr f k).bind fun o => stp o (f k)
theorem unr_next {f : Nat → Int × Int} {k : Nat} {o : List Int} (h : unr f k = some o) : unr f (k + 1) = stp o (f k) := by rw [unr, h]; rfl
theorem unr_stuck {f : Nat → Int × Int} {k : Nat} (h : unr f k = none) : ∀ n, k ≤ n → unr f n = none
  | 0, hn => by obtain rfl : k = 0 := by omega
                exact h
  | n + 1, hn => by
    by_cases e : k = n + 1
    · rw [← e]; exact h
    · rw [unr, unr_stuck h n (by omega)]; rfl
theorem unr_no {f : Nat → Int × Int} {k n : Nat} {o : List Int} (h : unr f k = some o) (h2 : stp o (f k) = none) (hk : k < n) : unr f n = none :=
  unr_stuck (by rw [unr_next h]; exact h2) n (by omega)
theorem stp_no {o : List Int} {y x : Int} (h : ¬ (0 ≤ y ∧ y ≤ 18 ∧ 0 ≤ x ∧ x ≤ top y)) : stp o (y, x) = none := by
  unfold stp ok
  rw [if_neg]
  rintro ⟨h1, _⟩
  exact h (of_decide_eq_true h1)
theorem stp_yes {o : List Int} {y x : Int} (h : 0 ≤ y ∧ y ≤ 18 ∧ 0 ≤ x ∧ x ≤ top y) (h2 : y = 16 → o.length ≠ 0) : stp o (y, x) = some (o ++ List.replicate (base y + x.toNat) (val o y)) := by
  unfold stp ok
  rw [if_pos ⟨decide_eq_true h, h2⟩]
theorem stp_inv {o p : List Int} {y x : Int} (h : stp o (y, x) = some p) : (0 ≤ y ∧ y ≤ 18 ∧ 0 ≤ x ∧ x ≤ top y) ∧ (y = 16 → o.length ≠ 0) ∧ p = o ++ List.replicate (base y + x.toNat) (val o y) := by
  unfold stp ok at h
  split at h
  · rename_i h1
    exact ⟨of_decide_eq_true h1.1, h1.2, (Option.some.inj h).symm⟩
  · simp at h
theorem top_le (y : Int) : top y ≤ 127 := by unfold top; split; omega; split; omega; split <;> omega
theorem base_le (y : Int) : base y ≤ 11 := by unfold base; split; omega; split; omega; split <;> omega
theorem base_ge (y : Int) : 1 ≤ base y := by unfold base; split; omega; split; omega; split <;> omega
/-- Every length is one. -/
def In (o : List Int) : Prop := ∀ x ∈ o, 0 ≤ x ∧ x ≤ 15
theorem In.wf {o : List Int} (h : In o) : Wf o := by
  intro x hx
  have := h x hx
  simp only [Lit.wf, IntKind.min, IntKind.max, IntKind.signed, IntKind.bits, Bool.and_eq_true, decide_eq_true_eq, if_true]
  simp
  omega
theorem In.get {o : List Int} (h : In o) (i : Nat) : 0 ≤ o.getD i 0 ∧ o.getD i 0 ≤ 15 := by
  by_cases hi : i < o.length
  · exact h _ (by simp [List.getD, List.getElem?_eq_getElem hi])
  · simp [List.getD, List.getElem?_eq_none (Nat.le_of_not_lt hi)]
theorem val_in {o : List Int} (h : In o) {y : Int} (h0 : 0 ≤ y) (h8 : y ≤ 18) : 0 ≤ val o y ∧ val o y ≤ 15 := by
  unfold val
  split
  · exact h.get _
  · split <;> omega
theorem unr_in {f : Nat → Int × Int} : ∀ {k : Nat} {o : List Int}, unr f k = some o → In o ∧ o.length ≤ 138 * k
  | 0, o, h => by simp only [unr, Option.some.injEq] at h; subst h; exact ⟨fun x hx => by simp at hx, by simp⟩
  | k + 1, o, h => by
    cases h1 : unr f k with
    | none => rw [unr, h1] at h; simp at h
    | some p =>
      rw [unr_next h1] at h
      obtain ⟨i1, i2⟩ := unr_in h1
      obtain ⟨h3, _, rfl⟩ := stp_inv (y := (f k).1) (x := (f k).2) h
      have := top_le (f k).1
      have := base_le (f k).1
      refine ⟨fun z hz => ?_, by simp; omega⟩
      rcases List.mem_append.1 hz with h | h
      · exact i1 z h
      · rw [List.mem_replicate] at h
        rw [h.2]
        exact val_in i1 h3.1 h3.2.1
theorem rep_next (o : List Int) (v : Int) (j : Nat) : o ++ List.replicate (j + 1) v = (o ++ List.replicate j v) ++ [v] := by
  rw [List.replicate_succ', ← List.append_assoc]
end Bl
end Go.Proofs.YtpoilaappcjbeaaGreatDoor
end

section
namespace Go.Proofs.YtpoilaappcjbeaaGreatDoor
open Go.RowKit

namespace Bl
/-- What runs come to, behind what there is. -/
def unrL : List Int → List (Int × Int) → Option (List Int)
  | o, [] => some o
  | o, r :: rs => (stp o r).bind fun p => unrL p rs
theorem unrL_append : ∀ (rs ss : List (Int × Int)) (o : List Int), unrL o (rs ++ ss) = (unrL o rs).bind fun p => unrL p ss
  | [], ss, o => rfl
  | r :: rs, ss, o => by
    rw [List.cons_append, unrL, unrL]
    cases h : stp o r with
    | none => rfl
    | some p => exact unrL_append rs ss p
theorem unrL_one (o : List Int) (r : Int × Int) : unrL o [r] = stp o r := by
  rw [unrL]
  cases stp o r <;> rfl
/-- The first k by their numbers, and as a list. -/
theorem unr_list (f : Nat → Int × Int) : ∀ k, unr f k = unrL [] ((List.range k).map f)
  | 0 => rfl
  | k + 1 => by
    rw [unr, unr_list f k, List.range_succ, List.map_append, unrL_append]
    congr 1
    funext p
    rw [List.map_cons, List.map_nil, unrL_one]
theorem unr_getD (rs : List (Int × Int)) : unr (fun k => rs.getD k (0, 0)) rs.length = unrL [] rs := by
  rw [unr_list]
  congr 1
  apply List.ext_getElem
  · simp
  · intro i h1 h2
    simp [List.getD, List.getElem?_eq_getElem h2]
def Rg (rs : List (Int × Int)) : Prop := ∀ t ∈ rs, 0 ≤ t.1 ∧ t.1 ≤ 18 ∧ 0 ≤ t.2 ∧ t.2 ≤ 127
theorem Rg.append {rs ss : List (Int × Int)} (h : Rg rs) (h2 : Rg ss) : Rg (rs ++ ss) := fun t ht => (List.mem_append.1 ht).elim (h t) (h2 t)
theorem Rg.one {y x : Int} (h : 0 ≤ y ∧ y ≤ 18 ∧ 0 ≤ x ∧ x ≤ 127) : Rg [(y, x)] := fun t ht => by
  simp only [List.mem_singleton] at ht
  subst ht; exact h
/-- Runs that stand for d times y, wherever they stand; no more of them than d. -/
structure Got (y : Int) (d : Nat) (rs : List (Int × Int)) : Prop where
  un : ∀ o, unrL o rs = some (o ++ List.replicate d y)
  le : rs.length ≤ d
  rg : Rg rs
theorem Got.nil (y : Int) : Got y 0 [] := ⟨fun o => by simp [unrL], Nat.le_refl _, fun t ht => by simp at ht⟩
theorem Got.more {y : Int} {d e : Nat} {rs : List (Int × Int)} {r : Int × Int} (h : Got y d rs) (he : 1 ≤ e) (hs : ∀ o : List Int, stp (o ++ List.replicate d y) r = some ((o ++ List.replicate d y) ++ List.replicate e y)) (hr : Rg [r]) : Got y (d + e) (rs ++ [r]) :=
  ⟨fun o => by rw [unrL_append, h.un o]; show unrL _ [r] = _; rw [unrL_one, hs, List.append_assoc, List.replicate_append_replicate],
   by have := h.le; simp; omega, h.rg.append hr⟩
theorem Got.lit {y : Int} {d : Nat} {rs : List (Int × Int)} (h : Got y d rs) (h0 : 0 ≤ y) (h15 : y ≤ 15) : Got y (d + 1) (rs ++ [(y, 0)]) := by
  have e6 : ¬ y = 16 := by omega
  have e7 : ¬ y = 17 := by omega
  have e8 : ¬ y = 18 := by omega
  refine h.more (Nat.le_refl _) (fun o => ?_) (Rg.one (by omega))
  rw [stp_yes ⟨h0, by omega, by omega, by unfold top; rw [if_neg e6, if_neg e7, if_neg e8]; omega⟩ (fun e => absurd e e6)]
  unfold base val
  rw [if_neg e6, if_neg e7, if_neg e8, if_neg e6, if_pos (by omega)]
  rfl
theorem Got.zeros {s : Int} {d z : Nat} {rs : List (Int × Int)} (h : Got 0 d rs) (hs : s = 17 ∨ s = 18) (hz : (z : Int) ≤ top s) : Got 0 (d + (base s + z)) (rs ++ [(s, (z : Int))]) := by
  have hb := base_ge s
  refine h.more (by omega) (fun o => ?_) (Rg.one ⟨by omega, by omega, by omega, by have := top_le s; omega⟩)
  rw [stp_yes ⟨by omega, by omega, by omega, hz⟩ (fun e => by omega)]
  unfold val
  rw [if_neg (by omega), if_neg (by omega)]
  rfl
theorem Got.again {y : Int} {d z : Nat} {rs : List (Int × Int)} (h : Got y d rs) (hd : 1 ≤ d) (hz : (z : Int) ≤ 3) : Got y (d + (3 + z)) (rs ++ [(16, (z : Int))]) := by
  refine h.more (by omega) (fun o => ?_) (Rg.one ⟨by omega, by omega, by omega, by omega⟩)
  rw [stp_yes ⟨by omega, by omega, by omega, by simpa [top] using hz⟩ (fun _ => by rw [List.length_append, List.length_replicate]; omega)]
  obtain ⟨e, rfl⟩ : ∃ e, d = e + 1 := ⟨d - 1, by omega⟩
  have hv : val (o ++ List.replicate (e + 1) y) 16 = y := by
    unfold val
    rw [if_pos rfl, List.replicate_succ', ← List.append_assoc]
    simp [List.getD]
  rw [hv]
  rfl
theorem Got.rest {y : Int} {rs : List (Int × Int)} (h0 : 0 ≤ y) (h15 : y ≤ 15) : ∀ (k : Nat) {d : Nat}, Got y d rs → Got y (d + k) (rs ++ List.replicate k (y, 0))
  | 0, _, h => by simpa using h
  | k + 1, d, h => by
    have := (Got.rest h0 h15 k h).lit h0 h15
    rw [List.append_assoc, ← List.replicate_succ'] at this
    exact this
end Bl
end Go.Proofs.YtpoilaappcjbeaaGreatDoor
end

section
namespace Go.Proofs.YtpoilaappcjbeaaGreatDoor
open Go.RowKit

namespace Bl
/-- As many runs of a symbol as there is room for, and what is left; f: enough. -/
def repsF (s : Int) (b t : Nat) : Nat → Nat → List (Int × Int) × Nat
  | 0, r => ([], r)
  | f + 1, r => if r < b then ([], r) else ((s, ((min (r - b) t : Nat) : Int)) :: (repsF s b t f (r - (b + min (r - b) t))).1, (repsF s b t f (r - (b + min (r - b) t))).2)
theorem repsF_fuel (s : Int) {b : Nat} (t : Nat) (hb : 1 ≤ b) : ∀ (f g r : Nat), r ≤ f → r ≤ g → repsF s b t f r = repsF s b t g r
  | 0, 0, r, _, _ => rfl
  | 0, g + 1, r, hf, _ => by
    obtain rfl : r = 0 := by omega
    rw [repsF, repsF, if_pos (by omega)]
  | f + 1, 0, r, _, hg => by
    obtain rfl : r = 0 := by omega
    rw [repsF, repsF, if_pos (by omega)]
  | f + 1, g + 1, r, hf, hg => by
    rw [repsF, repsF]
    by_cases h : r < b
    · rw [if_pos h, if_pos h]
    · rw [if_neg h, if_neg h, repsF_fuel s t hb f g _ (by omega) (by omega)]
/-- What is laid, and what is left, behind such runs. -/
def go (s : Int) (b t : Nat) (rs : List (Int × Int)) (r : Nat) : List (Int × Int) × Nat := (rs ++ (repsF s b t r r).1, (repsF s b t r r).2)
theorem go_end (s : Int) (b t : Nat) (rs : List (Int × Int)) (r : Nat) (h : r < b) : go s b t rs r = (rs, r) := by
  unfold go
  cases r with
  | zero => rw [repsF]; simp
  | succ r => rw [repsF, if_pos h]; simp
theorem go_step (s : Int) {b t : Nat} (hb : 1 ≤ b) (rs : List (Int × Int)) (r z e : Nat) (h : b ≤ r) (hz : z = min (r - b) t) (he : b + z + e = r) : go s b t rs r = go s b t (rs ++ [(s, (z : Int))]) e := by
  subst hz
  unfold go
  obtain ⟨q, rfl⟩ : ∃ q, r = q + 1 := ⟨r - 1, by omega⟩
  have e1 : q + 1 - (b + min (q + 1 - b) t) = e := by omega
  rw [repsF, if_neg (by omega), e1, repsF_fuel s t hb q e e (by omega) (Nat.le_refl _)]
  simp
/-- Behind i symbols, of zeros. -/
def zs (c : Nat) : Nat → List (Int × Int) × Nat
  | 0 => ([], c)
  | 1 => go 18 11 127 [] c
  | _ => go 17 3 7 (go 18 11 127 [] c).1 (go 18 11 127 [] c).2
/-- The same, of another length. -/
def ys (y : Int) (c : Nat) : Nat → List (Int × Int) × Nat
  | 0 => ([(y, 0)], c - 1)
  | _ => go 16 3 3 [(y, 0)] (c - 1)
/-- The runs of a stretch. -/
def stF (y : Int) (c : Nat) : List (Int × Int) := if y = 0 then (zs c 2).1 ++ List.replicate (zs c 2).2 (0, 0) else (ys y c 1).1 ++ List.replicate (ys y c 1).2 (y, 0)
end Bl
end Go.Proofs.YtpoilaappcjbeaaGreatDoor
end

section
namespace Go.Proofs.YtpoilaappcjbeaaGreatDoor
open Go.RowKit

namespace Bl
/-- How many are the same, from the first one on. -/
def al (l : List Int) : Nat := (l.takeWhile fun x => x == l.getD 0 0).length
theorem tw_length : ∀ (l : List Int) (y : Int) (c : Nat), c ≤ l.length → (∀ i, i < c → l.getD i 0 = y) → (c < l.length → l.getD c 0 ≠ y) → (l.takeWhile fun x => x == y).length = c
  | [], y, c, hc, _, _ => by simp at hc; subst hc; rfl
  | x :: r, y, 0, _, _, h => by
    have := h (by simp)
    simp at this
    simp [List.takeWhile_cons, this]
  | x :: r, y, c + 1, hc, h, h2 => by
    have hx : x = y := by simpa using h 0 (by omega)
    subst hx
    have ih := tw_length r x c (by simpa using hc) (fun i hi => by simpa using h (i + 1) (by omega)) (fun hl => by simpa using h2 (by simpa using hl))
    simp [List.takeWhile_cons, ih]
theorem al_eq {l : List Int} {c : Nat} (hc : c ≤ l.length) (h : ∀ i, i < c → l.getD i 0 = l.getD 0 0) (h2 : c < l.length → l.getD c 0 ≠ l.getD 0 0) : al l = c := tw_length l _ c hc h h2
theorem al_le (l : List Int) : al l ≤ l.length := by
  unfold al
  exact (List.takeWhile_sublist _).length_le
theorem al_pos {l : List Int} (h : 0 < l.length) : 0 < al l := by
  cases l with
  | nil => simp at h
  | cons x r => simp [al, List.takeWhile_cons]
theorem al_same (l : List Int) : l.take (al l) = List.replicate (al l) (l.getD 0 0) := by
  have e : l.take (al l) = l.takeWhile fun x => x == l.getD 0 0 := by
    unfold al
    exact (List.prefix_iff_eq_take.1 (List.takeWhile_prefix _)).symm
  rw [e, List.eq_replicate_iff]
  refine ⟨rfl, fun x hx => ?_⟩
  have := List.all_takeWhile (p := fun x => x == l.getD 0 0) (l := l)
  rw [List.all_eq_true] at this
  simpa using this x hx
/-- The runs of lengths, with enough of f; none: not lengths. -/
def rn : Nat → List Int → Option (List (Int × Int))
  | 0, l => if l.length = 0 then some [] else none
  | f + 1, l => if l.length = 0 then some [] else if 0 ≤ l.getD 0 0 ∧ l.getD 0 0 < 16 then (rn f (l.drop (al l))).map fun rs => stF (l.getD 0 0) (al l) ++ rs else none
theorem rn_fuel : ∀ (f g : Nat) (l : List Int), l.length ≤ f → l.length ≤ g → rn f l = rn g l
  | 0, 0, l, _, _ => rfl
  | 0, g + 1, l, hf, _ => by rw [rn, rn, if_pos (by omega), if_pos (by omega)]
  | f + 1, 0, l, _, hg => by rw [rn, rn, if_pos (by omega), if_pos (by omega)]
  | f + 1, g + 1, l, hf, hg => by
    rw [rn, rn]
    by_cases h : l.length = 0
    · rw [if_pos h, if_pos h]
    · rw [if_neg h, if_neg h]
      have := al_pos (l := l) (by omega)
      rw [rn_fuel f g (l.drop (al l)) (by simp; omega) (by simp; omega)]
/-- The runs, behind those that there are. -/
def ru (rs : List (Int × Int)) (l : List Int) : Option (List (Int × Int)) := (rn l.length l).map fun ss => rs ++ ss
theorem ru_end (rs : List (Int × Int)) : ru rs [] = some rs := by simp [ru, rn]
theorem ru_bad (rs : List (Int × Int)) {l : List Int} (h : 0 < l.length) (h2 : ¬ (0 ≤ l.getD 0 0 ∧ l.getD 0 0 < 16)) : ru rs l = none := by
  unfold ru
  obtain ⟨n, hn⟩ : ∃ n, l.length = n + 1 := ⟨l.length - 1, by omega⟩
  rw [hn, rn, if_neg (by omega), if_neg h2]
  rfl
theorem ru_step (rs : List (Int × Int)) {l : List Int} (h : 0 < l.length) (h2 : 0 ≤ l.getD 0 0 ∧ l.getD 0 0 < 16) : ru rs l = ru (rs ++ stF (l.getD 0 0) (al l)) (l.drop (al l)) := by
  unfold ru
  obtain ⟨n, hn⟩ : ∃ n, l.length = n + 1 := ⟨l.length - 1, by omega⟩
  have hp := al_pos h
  rw [hn, rn, if_neg (by omega), if_pos h2, rn_fuel n (l.drop (al l)).length (l.drop (al l)) (by simp; omega) (Nat.le_refl _)]
  cases rn (l.drop (al l)).length (l.drop (al l)) with
  | none => rfl
  | some ss => simp
end Bl
end Go.Proofs.YtpoilaappcjbeaaGreatDoor
end
