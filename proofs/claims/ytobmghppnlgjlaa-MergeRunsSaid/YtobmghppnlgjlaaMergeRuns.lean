/- For any three numbers: of symbols that stand equally often the best lengths are two neighbours at most, and even for powers of two. No conditions. -/
import Derived.Test.YtobmghppnlgjlaaRows
import Derived.Test.YtobmghppnlgjlaaOpen
import Derived.Test.YtobmghppnlgjlaaMergeLaw
import Derived.Test.YtobmghppnlgjlaaRunsMath
namespace Go.Proofs.Ytobmghppnlgjlaa.MergeRuns
open Go.ChangeShapes Go.WideShapes Go.ChangeAt Go.RowKit
open Go.ChangeMaps (open_string shut_string)
set_option linter.unusedVariables false
theorem own : ownKnob Try.prog.godebug = none := by kernel_rfl
theorem laidOut : laidOutB Try.prog = true := by kernel_rfl
/-- What the law makes of a number. -/
theorem rem_small (x M k : Int) (hM : 0 < M) (hM2 : M ≤ 2147483648) (hk : 0 ≤ k) (hk2 : k ≤ 1000) : ∃ m : Nat, (m : Int) < k + M ∧ k ≤ (m : Int) ∧ wrap64 (k + wrap64 ((IntKind.u64.wrap x).tmod M)) = (m : Int) := by
  have h0 : 0 ≤ IntKind.u64.wrap x := by
    simp only [IntKind.wrap, IntKind.signed, IntKind.bits]
    first | omega | (simp; omega)
  have h1 : (IntKind.u64.wrap x).tmod M = IntKind.u64.wrap x % M := Int.tmod_eq_emod_of_nonneg h0
  have h2 := Int.emod_nonneg (IntKind.u64.wrap x) (show M ≠ 0 by omega)
  have h3 := Int.emod_lt_of_pos (IntKind.u64.wrap x) hM
  rw [h1]
  generalize IntKind.u64.wrap x % M = r at *
  rw [IntWalk.wrap64_in r ⟨by omega, by omega⟩, IntWalk.wrap64_in (k + r) ⟨by omega, by omega⟩]
  exact ⟨(k + r).toNat, by omega, by omega, by omega⟩
/-- The equal counts. -/
theorem same_wf (c : Int) (n : Nat) (h0 : 0 ≤ c) (h1 : c ≤ 2147483648) : Wf (List.replicate n c) := fun x hx => by
  rw [List.eq_of_mem_replicate hx]
  simp only [Lit.wf, IntKind.min, IntKind.max, IntKind.signed, IntKind.bits, Bool.and_eq_true, decide_eq_true_eq, if_true]
  simp; omega
theorem same_getD (c : Int) (n k : Nat) (h : k < n) : (List.replicate n c).getD k 0 = c := by simp [List.getD, List.getElem?_replicate, h]
theorem same_used (c : Int) (h : 0 < c) (n : Nat) : Mg.used (List.replicate n c) = n := by
  unfold Mg.used
  rw [List.filter_replicate, if_pos (decide_eq_true h), List.length_replicate]
theorem same_rise (c : Int) (h : 0 < c) (n : Nat) : Mg.rise (List.replicate n c) = List.replicate n c := by
  rw [List.eq_replicate_iff]
  refine ⟨by rw [Mg.rise_length, same_used c h], fun x hx => ?_⟩
  simp only [Mg.rise, List.mem_map] at hx
  obtain ⟨i, hi, rfl⟩ := hx
  have := Mg.order_lt _ i hi
  rw [List.length_replicate] at this
  exact same_getD c n i this
theorem min_fold (m : List Int) (k : Int) (hk : k ≤ 16) (h1 : ∀ x ∈ m, k ≤ x) (h2 : k ∈ m) : m.foldl min 16 = k := by
  have key : ∀ (m : List Int) (a : Int), k ≤ a → (∀ x ∈ m, k ≤ x) → (a = k ∨ k ∈ m) → m.foldl min a = k := by
    intro m
    induction m with
    | nil => intro a ha _ h; simpa using h
    | cons x m ih =>
      intro a ha hx h
      have hx1 := hx x (by simp)
      refine ih (min a x) (by omega) (fun y hy => hx y (by simp [hy])) ?_
      rcases h with h | h
      · left; omega
      · rcases List.mem_cons.1 h with h | h
        · left; omega
        · exact .inr h
  exact key m 16 hk h1 (.inr h2)
theorem max_fold (m : List Int) (k : Int) (hk : 0 ≤ k) (h1 : ∀ x ∈ m, x ≤ k) (h2 : k ∈ m) : m.foldl max 0 = k := by
  have key : ∀ (m : List Int) (a : Int), a ≤ k → (∀ x ∈ m, x ≤ k) → (a = k ∨ k ∈ m) → m.foldl max a = k := by
    intro m
    induction m with
    | nil => intro a ha _ h; simpa using h
    | cons x m ih =>
      intro a ha hx h
      have hx1 := hx x (by simp)
      refine ih (max a x) (by omega) (fun y hy => hx y (by simp [hy])) ?_
      rcases h with h | h
      · left; omega
      · rcases List.mem_cons.1 h with h | h
        · left; omega
        · exact .inr h
  exact key m 0 hk h1 (.inr h2)
/-- The least and the greatest length. -/
theorem same_ends (c : Int) (h : 0 < c) (n L : Nat) (hn : 2 ≤ n) (hn2 : n ≤ 251) (hL : 8 ≤ L ∧ L ≤ 16) :
    (Mg.lensOf (List.replicate n c) L).foldl min 16 = (Nat.log2 n : Nat) ∧ (Mg.lensOf (List.replicate n c) L).foldl max 0 = (Nat.log2 n + (if n = 2 ^ Nat.log2 n then 0 else 1) : Nat) := by
  have hq : 2 ^ Nat.log2 n ≤ n ∧ n < 2 ^ (Nat.log2 n + 1) := ⟨Nat.log2_self_le (by omega), Nat.lt_log2_self⟩
  have hk : 1 ≤ Nat.log2 n ∧ Nat.log2 n ≤ 7 := by
    refine ⟨?_, ?_⟩
    · rcases Nat.eq_zero_or_pos (Nat.log2 n) with e | e
      · rw [e] at hq; omega
      · exact e
    · rcases Nat.lt_or_ge (Nat.log2 n) 8 with e | e
      · omega
      · have : 2 ^ 8 ≤ 2 ^ Nat.log2 n := Nat.pow_le_pow_right (by omega) e
        omega
  generalize Nat.log2 n = k0 at *
  obtain ⟨h1, h2, h3, h4⟩ := Mg.runs_lens c h n L k0 hn hL hk hq
  have hlen : (Mg.lensOf (List.replicate n c) L).length = n := by rw [Mg.lensOf_length, List.length_replicate]
  have hol : (Mg.order (List.replicate n c)).length = n := by rw [Mg.order_used, same_used c h]
  have hat : ∀ i, i < n → (Mg.lensOf (List.replicate n c) L).getD ((Mg.order (List.replicate n c)).getD i 0) 0 = ((Mg.cnt (Mg.back (List.replicate n c) L (2 * n - 2)) i : Nat) : Int) := fun i hi => by
    rw [Mg.lensOf_at _ L i (by rw [hol]; exact hi), same_rise c h, Mg.lens_big (by rw [List.length_replicate]; exact hn) i (by rw [List.length_replicate]; exact hi), List.length_replicate]
  have hmem : ∀ i, i < n → ((Mg.cnt (Mg.back (List.replicate n c) L (2 * n - 2)) i : Nat) : Int) ∈ Mg.lensOf (List.replicate n c) L := fun i hi => by
    rw [← hat i hi]
    have hs : (Mg.order (List.replicate n c)).getD i 0 < n := by
      have := Mg.order_lt (List.replicate n c) ((Mg.order (List.replicate n c)).getD i 0) (by simp [List.getD, List.getElem?_eq_getElem (show i < (Mg.order (List.replicate n c)).length by omega)])
      rwa [List.length_replicate] at this
    have hs2 : (Mg.order (List.replicate n c)).getD i 0 < (Mg.lensOf (List.replicate n c) L).length := by omega
    generalize (Mg.order (List.replicate n c)).getD i 0 = s at *
    generalize Mg.lensOf (List.replicate n c) L = m at *
    simp [List.getD, List.getElem?_eq_getElem hs2]
  have hval : ∀ x ∈ Mg.lensOf (List.replicate n c) L, ∃ i, i < n ∧ x = ((Mg.cnt (Mg.back (List.replicate n c) L (2 * n - 2)) i : Nat) : Int) := fun x hx => by
    obtain ⟨j, hj, rfl⟩ := List.mem_iff_getElem.1 hx
    obtain ⟨i, hi, e⟩ := Mg.order_at (List.replicate n c) j (by rw [List.length_replicate]; omega) (by rw [same_getD c n j (by omega)]; exact h)
    refine ⟨i, by omega, ?_⟩
    rw [← hat i (by omega), e]
    simp [List.getD, List.getElem?_eq_getElem hj]
  refine ⟨min_fold _ _ (by omega) (fun x hx => ?_) ?_, max_fold _ _ (by omega) (fun x hx => ?_) ?_⟩
  · obtain ⟨i, hi, rfl⟩ := hval x hx
    have := h1 i hi; omega
  · obtain ⟨i, hi, e⟩ := h2
    rw [← e]; exact hmem i hi
  · obtain ⟨i, hi, rfl⟩ := hval x hx
    by_cases e : n = 2 ^ k0
    · rw [if_pos e, h3 e i hi]; omega
    · rw [if_neg e]; have := h1 i hi; omega
  · by_cases e : n = 2 ^ k0
    · rw [if_pos e]
      obtain ⟨i, hi, e2⟩ := h2
      rw [Nat.add_zero, ← e2]; exact hmem i hi
    · rw [if_neg e]
      obtain ⟨i, hi, e2⟩ := h4 e
      rw [← e2]; exact hmem i hi
/-- What is asked in the end. -/
theorem runs_facts (n : Nat) (h1 : 2 ≤ n) (h2 : n ≤ 251) : n.log2 ≤ 8 ∧ n.log2 + (if n = 2 ^ n.log2 then 0 else 1) ≤ n.log2 + 1 ∧ n ≤ 2 ^ (n.log2 + (if n = 2 ^ n.log2 then 0 else 1)) ∧ 2 ^ n.log2 ≤ n ∧
    (((n.log2 : Nat) : Int) == ((n.log2 + (if n = 2 ^ n.log2 then 0 else 1) : Nat) : Int)) = (bits .and .i64 (n : Int) ((n : Int) - 1) == 0) := by
  have key : ∀ m : Fin 252, 2 ≤ m.val → (m.val.log2 ≤ 8 ∧ m.val.log2 + (if m.val = 2 ^ m.val.log2 then 0 else 1) ≤ m.val.log2 + 1 ∧ m.val ≤ 2 ^ (m.val.log2 + (if m.val = 2 ^ m.val.log2 then 0 else 1)) ∧ 2 ^ m.val.log2 ≤ m.val ∧
    (((m.val.log2 : Nat) : Int) == ((m.val.log2 + (if m.val = 2 ^ m.val.log2 then 0 else 1) : Nat) : Int)) = (bits .and .i64 (m.val : Int) ((m.val : Int) - 1) == 0)) := by decide +kernel
  exact key ⟨n, by omega⟩ h1
set_option maxRecDepth 100000 in
set_option maxHeartbeats 4000000 in
theorem walk (n c L : Int) (w : World) (hn : (Lit.int .i64 n).wf = true) (hc : (Lit.int .i64 c).wf = true) (hL : (Lit.int .i64 L).wf = true) :
    Calls Try.prog 7 #[.int .i64 n, .int .i64 c, .int .i64 L] w fun e w' => e = .returned (.bool true) ∧ Below w.heap.size w w' := by
  obtain ⟨nn, n1, n2, hn3⟩ := rem_small n 250 2 (by omega) (by omega) (by omega) (by omega)
  obtain ⟨cc, c1, c2, hc3⟩ := rem_small c 1073741824 1 (by omega) (by omega) (by omega) (by omega)
  obtain ⟨LL, l1, l2, hL3⟩ := rem_small L 9 8 (by omega) (by omega) (by omega) (by omega)
  have HN := Lib.hid hn3
  have HC := Lib.hid hc3
  have HLL := Lib.hid hL3
  clear hn3 hc3 hL3 hn hc hL
  go_enter Try.func7, Try.ntmps7
  go_wp2_with fail
  refine (alive_any w).mono ?_
  rintro e w1 ⟨rfl, hb1⟩
  have HB1 := Lib.hid hb1
  have hz1 := hb1.size
  clear hb1
  go_wp2
  rw [HN.out, HC.out, HLL.out]
  generalize Value.int IntKind.u64 ((IntKind.u64.wrap n).tmod 250) = y1
  generalize Value.int IntKind.i64 (wrap64 ((IntKind.u64.wrap n).tmod 250)) = y2
  generalize Value.int IntKind.u64 ((IntKind.u64.wrap c).tmod 1073741824) = y3
  generalize Value.int IntKind.i64 (wrap64 ((IntKind.u64.wrap c).tmod 1073741824)) = y4
  generalize Value.int IntKind.u64 ((IntKind.u64.wrap L).tmod 9) = y5
  generalize Value.int IntKind.i64 (wrap64 ((IntKind.u64.wrap L).tmod 9)) = y6
  clear HN HC HLL
  have HO0 : Hid ((w1.alloc (.cells #[] 3)).ownsRow w1.heap.size 3 1 (.slice (some ⟨w1.heap.size, 0, none⟩) 0 0) 0 (ivs (List.replicate 0 (cc : Int))) ∧ Below w1.heap.size w1 (w1.alloc (.cells #[] 3))) := Lib.hid ⟨⟨by simp [ivs], .inr ⟨w1.heap.size, 0, #[], rfl, Nat.le_refl _, heap_alloc_last w1 _, by omega, by unfold maxLen; omega, rfl, rfl⟩⟩, below_alloc _ _⟩
  go_loopw [7, 33] (fun v i wr => ∃ k : Nat, k ≤ nn ∧ i = .int .i64 k ∧ Hid (wr.ownsRow w1.heap.size 3 1 v k (ivs (List.replicate k (cc : Int))) ∧ Below w1.heap.size w1 wr)) (fun _ i _ => nn - (intOf i).toNat)
  case atStart => exact ⟨0, by omega, rfl, HO0⟩
  case round =>
    obtain ⟨k, hk, rfl, HK⟩ := hrel
    have hzr := HK.out.2.size
    by_cases hlt : k < nn
    · have hd : decide ((k : Int) < (nn : Int)) = true := by simp; omega
      go_wp2_with (at_builtin; refine wpl_append tyI rfl _ _ rfl (own_below HK.out.1 (below_alloc wr _)) (src_int wr (cc : Nat)) rfl rfl (by omega) (by omega) (by simp; omega) ?_)
      intro v' w' own' hg' _
      have hb' : Below w1.heap.size w1 w' := (HK.out.2.alloc hzr _).grown hg' (by simp; omega) (fun g hg => (HK.out.1.lt g hg).1)
      rw [← ivs_append, show List.replicate k (cc : Int) ++ [(cc : Int)] = List.replicate (k + 1) (cc : Int) by rw [List.replicate_succ']] at own'
      have HK2 := Lib.hid (And.intro own' hb')
      clear own' hb' hg' HK
      go_wp2
      go_roundw
      case rel => exact ⟨k + 1, by omega, by go_num, HK2⟩
      case measure => simp [intOf]; omega
    · obtain rfl : nn = k := by omega
      have hd : decide ((nn : Int) < (nn : Int)) = false := by simp
      obtain ⟨va, vc, rfl, hi⟩ := own_is HK.out.1 (same_wf _ _ (by omega) (by omega))
      have HI := Lib.hid hi
      have HBR := Lib.hid (below_then HB1.out HK.out.2)
      clear hi HK HO0
      go_wp2_with fail
      refine (lengths_any va nn vc (List.replicate nn (cc : Int)) (LL : Int) wr HI.out (by omega)).mono ?_
      have hus := same_used (cc : Int) (by omega) nn
      have hok : Mg.okB (List.replicate nn (cc : Int)) = true := Mg.within_good _ _ _ (by rw [List.length_replicate]; omega) (fun k hk => by rw [List.length_replicate] at hk; rw [same_getD _ _ _ hk]; omega)
      have hp8 : (2 : Nat) ^ 8 ≤ 2 ^ LL := Nat.pow_le_pow_right (by omega) (by omega)
      have hok2 : Mg.okL (List.replicate nn (cc : Int)) (LL : Int) = true := by
        unfold Mg.okL
        rw [hus, Int.toNat_natCast]
        generalize 2 ^ LL = p at *
        exact decide_eq_true ⟨by omega, by omega, by omega⟩
      rintro e w2 ⟨hb2, (⟨h, _⟩ | ⟨_, h, _⟩ | ⟨_, _, v, rfl, own2⟩)⟩
      · rw [hok] at h; cases h
      · rw [hok2] at h; cases h
      obtain ⟨e1, e2⟩ := same_ends (cc : Int) (by omega) nn LL (by omega) (by omega) ⟨by omega, by omega⟩
      rw [Int.toNat_natCast, List.length_replicate] at own2
      have hml : (Mg.lensOf (List.replicate nn (cc : Int)) LL).length = nn := by rw [Mg.lensOf_length, List.length_replicate]
      have hwf := lensOf_wf (List.replicate nn (cc : Int)) LL (fun k hk => by rw [List.length_replicate] at hk; rw [same_getD _ _ _ hk]; omega) (by omega) (by omega) (by
        rw [hus]
        generalize 2 ^ LL = p at *
        omega)
      have hrg := fun j (hj : j < nn) => Mg.lensOf_range (l := List.replicate nn (cc : Int)) (L := LL) (fun k hk => by rw [List.length_replicate] at hk; rw [same_getD _ _ _ hk]; omega) (by omega) (by
        rw [hus]
        generalize 2 ^ LL = p at *
        omega) j (by rw [List.length_replicate]; exact hj)
      obtain ⟨ma, mc, rfl, hi2⟩ := own_is own2 hwf
      have HI2 := Lib.hid hi2
      have HB3 := Lib.hid (below_then HBR.out hb2)
      have HRG := Lib.hid (fun j hj => (show 0 ≤ (Mg.lensOf (List.replicate nn (cc : Int)) LL).getD j 0 ∧ (Mg.lensOf (List.replicate nn (cc : Int)) LL).getD j 0 ≤ 16 from by have := hrg j hj; omega))
      have HML := Lib.hid hml
      have hle1 : Nat.log2 nn ≤ 16 := by
        rcases Nat.lt_or_ge (Nat.log2 nn) 17 with e | e
        · omega
        · have h1 := Nat.log2_self_le (n := nn) (by omega)
          have : 2 ^ 17 ≤ 2 ^ Nat.log2 nn := Nat.pow_le_pow_right (by omega) e
          omega
      have HE := Lib.hid (And.intro e1 e2)
      clear own2 hi2 hb2 hwf hrg hml e1 e2 hok hok2 hp8 hus HI HBR
      generalize Mg.lensOf (List.replicate nn (cc : Int)) LL = m at *
      have dnn : ((nn : Int) != (nn : Int)) = false := by simp
      go_wp2
      go_loopw [10, 11, 56] (fun lo hi i wr => ∃ k : Nat, k ≤ nn ∧ i = .int .i64 k ∧ lo = .int .i64 ((m.take k).foldl min 16) ∧ hi = .int .i64 ((m.take k).foldl max 0) ∧ wr = w2) (fun _ _ i _ => nn - (intOf i).toNat)
      case atStart => exact ⟨0, by omega, rfl, rfl, rfl, rfl⟩
      case round =>
        obtain ⟨k, hk, rfl, rfl, rfl, rfl⟩ := hrel
        by_cases hlt : k < nn
        · obtain ⟨b1, o1, rfl, _, q1⟩ := HI2.out.at' k hlt
          have hkm : k < m.length := by rw [HML.out]; exact hlt
          have et : m.take (k + 1) = m.take k ++ [m.getD k 0] := by rw [List.take_succ_eq_append_getElem hkm]; simp [List.getD, List.getElem?_eq_getElem hkm]
          have HT1 : Hid ((m.take (k + 1)).foldl min 16 = min ((m.take k).foldl min 16) (m.getD k 0)) := Lib.hid (by rw [et, List.foldl_append]; rfl)
          have HT2 : Hid ((m.take (k + 1)).foldl max 0 = max ((m.take k).foldl max 0) (m.getD k 0)) := Lib.hid (by rw [et, List.foldl_append]; rfl)
          clear et hkm
          generalize (m.take k).foldl min 16 = lo at *
          generalize (m.take k).foldl max 0 = hi at *
          generalize m.getD k 0 = z at *
          go_wp2
          go_roundw
          case rel => exact ⟨k + 1, by omega, by go_num, by rw [HT1.out], by rw [HT2.out], trivial⟩
          case measure => simp [intOf]; omega
        · obtain rfl : nn = k := by omega
          have hfull : m.take nn = m := List.take_of_length_le (by rw [HML.out]; exact Nat.le_refl _)
          rw [hfull, HE.out.1, HE.out.2]
          obtain ⟨f1, f2, f3, f4, f5⟩ := runs_facts nn (by omega) (by omega)
          clear HE HML HRG hfull
          generalize nn.log2 + (if nn = 2 ^ nn.log2 then 0 else 1) = gg at *
          generalize nn.log2 = kk at *
          have d1 : decide ((gg : Int) - (kk : Int) ≤ 1) = true := by simp; omega
          have d2 : decide ((nn : Int) ≤ wrap64 ((2 : Int) ^ gg)) = true := by rw [wrap_pow gg (by omega)]; generalize 2 ^ gg = p at *; simp; omega
          have d3 : decide (wrap64 ((2 : Int) ^ kk) ≤ (nn : Int)) = true := by rw [wrap_pow kk (by omega)]; generalize 2 ^ kk = p at *; simp; omega
          go_wp2
          go_ret
          exact ⟨rfl, HB3.out⟩
set_option maxRecDepth 100000 in
theorem lifted (os : Os) (started : os.Started) (H : Type) (enc : TypeId × Value → H) :
    ReturnsInHanded {} Try.checked os 7 .any (Rows.mergeRunsSpec.pre6 enc Try.prog Try.f7 Rows.mergeRunsRow.domain false) (Rows.mergeRunsSpec.post enc Try.prog Try.f7 false true false false) := by
  refine returnsInHanded_of_change_sized (C := Try.checked) own started (by kernel_rfl) Try.func7
    (ChangeSpec.witness6 (enc := enc) (C := Try.checked) false ⟨#[], #[.int .i64 0, .int .i64 0, .int .i64 0], []⟩ 8 (by kernel_rfl) (by kernel_rfl) (by kernel_rfl) (by kernel_rfl)) ?_
  intro W base args ds gs before hval0 hW _ hsz0 _
  have hval : ∀ (j : Nat) t v, Try.f7.params[j]? = some t → args[j]? = some v → Value.okWide Try.prog W .any base t v := hval0
  have hsz : (DataW.weightsEach Try.prog (Try.f7.params.toList ++ Rows.mergeRunsSpec.plain.varTypes Try.prog) (ds ++ gs)).all (· ≤ reachBytes) = true := hsz0
  have hW' := hW
  obtain ⟨p, q, hA0, hV, rfl, hfz, hnd⟩ := hW
  have hA : DataW.TrodAll enc Try.prog W 0 (fun _ => true) true Try.f7.params.toList args.toList ds p := hA0
  rw [Try.params7] at hA hval hsz
  obtain ⟨v0, vs0, d0, ds0, p0, q0, hargs, rfl, rfl, h0, r0⟩ := trodAll_cons hA
  obtain ⟨v1, vs1, d1, ds1, p1, q1, rfl, rfl, rfl, h1, r1⟩ := trodAll_cons r0
  obtain ⟨v2, vs2, d2, ds2, p2, q2, rfl, rfl, rfl, h2, r2⟩ := trodAll_cons r1
  obtain ⟨rfl, rfl, rfl⟩ := trodAll_nil r2
  obtain rfl : args = #[v0, v1, v2] := by cases args; simp_all
  obtain ⟨rfl, rfl⟩ := trodVars_none hV
  clear hsz0
  obtain ⟨a0, rfl, rfl, rfl, w0⟩ := open_int Try.underlying3 (hval 0 3 v0 rfl rfl) h0
  obtain ⟨a1, rfl, rfl, rfl, w1⟩ := open_int Try.underlying3 (hval 1 3 v1 rfl rfl) h1
  obtain ⟨a2, rfl, rfl, rfl, w2⟩ := open_int Try.underlying3 (hval 2 3 v2 rfl rfl) h2
  clear hA0 hval0 hsz
  refine (walk a0 a1 a2 W w0 w1 w2).mono fun e W' ⟨he, bel⟩ => ?_
  subst he
  exact ⟨_, rfl, _, _, _, [], _, [], hW', trodAll_mk1 (shut_bool Try.underlying4 _), (trodAll_cons_mk (shut_int Try.underlying3 w0) (trodAll_cons_mk (shut_int Try.underlying3 w1) (trodAll_cons_mk (shut_int Try.underlying3 w2) trodAll_mk0))), rfl, bel.frame _, fun h => by cases h⟩

theorem proved : Rows.MergeRunsSaid :=
  OpenClaim.holds_of_wide 7 Try.f7 rfl rfl rfl rfl rfl rfl rfl ⟨rfl, rfl, rfl, rfl, rfl⟩ rfl rfl rfl rfl rfl (by kernel_rfl) Try.func7 (by kernel_rfl)
    (of_decide_eq_true (by kernel_rfl)) (by unfold Func.isWrapper; first | (rw [if_pos (by decide +kernel)]; kernel_rfl) | (rw [if_neg (by decide +kernel)]; exact ⟨rfl, rfl⟩))
    (fun os started H enc _ => lifted os started H enc)
#print axioms proved
end Go.Proofs.Ytobmghppnlgjlaa.MergeRuns
