/- The document's codes of a JPEG: their contract. -/
import Derived.Test.YtcagdnajapcmkaaPair
import Derived.Test.YtcagdnajapcmkaaNumInts
import Derived.Test.YtcagdnajapcmkaaOpenCanon
namespace Go.Proofs.Ytcagdnajapcmkaa
open Go.RowKit

namespace Cn
/-- The lengths of codes, from how many there are of each. -/
def cnt (c : Nat → Int) (m : Nat) : List Int := (List.range m).flatMap fun n => List.replicate (c n).toNat ((n + 1 : Nat) : Int)
theorem cnt_succ (c : Nat → Int) (m : Nat) : cnt c (m + 1) = cnt c m ++ List.replicate (c m).toNat ((m + 1 : Nat) : Int) := by simp [cnt, List.range_succ]
theorem cnt_le (c : Nat → Int) (m n : Nat) (h : m ≤ n) : (cnt c m).length ≤ (cnt c n).length := by
  induction n with
  | zero => obtain rfl : m = 0 := by omega
            exact Nat.le_refl _
  | succ n ih =>
    by_cases h2 : m ≤ n
    · have := ih h2; rw [cnt_succ, List.length_append]; omega
    · obtain rfl : m = n + 1 := by omega
      exact Nat.le_refl _
theorem cnt_bound (c : Nat → Int) (m : Nat) (hm : m ≤ 16) : ∀ x ∈ cnt c m, 0 ≤ x ∧ x ≤ 16 := by
  intro x hx
  simp only [cnt, List.mem_flatMap, List.mem_range, List.mem_replicate] at hx
  obtain ⟨n, hn, _, rfl⟩ := hx
  omega
def syB (s : List UInt8) : List Int := s.map fun x => (x.toNat : Int)
theorem syB_length (s : List UInt8) : (syB s).length = s.length := by simp [syB]
theorem syB_take (s : List UInt8) (k : Nat) (h : k < s.length) : syB (s.take (k + 1)) = syB (s.take k) ++ [((s.getD k 0).toNat : Int)] := by
  unfold syB
  rw [List.take_succ_eq_append_getElem h, List.map_append]; simp [List.getD, List.getElem?_eq_getElem h]
theorem syB_small (s : List UInt8) : ∀ x ∈ syB s, 0 ≤ x ∧ x ≤ 1000000000 := by
  intro x hx
  simp only [syB, List.mem_map] at hx
  obtain ⟨y, _, rfl⟩ := hx
  have := y.toNat_lt
  omega
def cOk (c : Nat → Int) : Bool := (List.range 16).all fun n => decide (0 ≤ c n ∧ c n ≤ 256)
/-- Is a JPEG's table of codes in form? -/
def tabB (c : Nat → Int) (s : List UInt8) : Bool := cOk c && decide ((cnt c 16).length = s.length) && decide s.Nodup && freeB (cnt c 16) && (decide (s = []) || decide (freeN (cnt c 16) ≠ 0))
theorem tab_bad (c : Nat → Int) (s : List UInt8) (m : Nat) (hm : m < 16) (h : c m < 0 ∨ 256 < c m) : tabB c s = false := by
  have : cOk c = false := by
    unfold cOk
    rw [List.all_eq_false]
    exact ⟨m, List.mem_range.2 hm, by simp; omega⟩
  simp [tabB, this]
theorem tab_len (c : Nat → Int) (s : List UInt8) (h : (cnt c 16).length ≠ s.length) : tabB c s = false := by simp [tabB, h]
theorem syB_get (s : List UInt8) (k : Nat) (h : k < s.length) : (syB s).getD k 0 = ((gb s k : Nat) : Int) := by
  simp [syB, gb, List.getD, List.getElem?_eq_getElem h]
theorem gb_eq (s : List UInt8) (p : Nat) (h : p < s.length) : gb s p = s[p].toNat := by simp [gb, List.getD, List.getElem?_eq_getElem h]
theorem tab_dup (c : Nat → Int) (s : List UInt8) (p q : Nat) (hpq : p < q) (hq : q < s.length) (h : gb s p = gb s q) : tabB c s = false := by
  have hn : ¬ s.Nodup := fun hn => by
    have := (List.pairwise_iff_getElem.1 hn) p q (by omega) hq hpq
    rw [gb_eq s p (by omega), gb_eq s q hq] at h
    exact this (UInt8.toNat_inj.1 h)
  simp [tabB, hn]
theorem nodup_of (s : List UInt8) (h : ∀ p q, p < q → q < s.length → gb s p ≠ gb s q) : s.Nodup := by
  refine List.pairwise_iff_getElem.2 (fun p q hp hq hpq e => h p q hpq hq ?_)
  rw [gb_eq s p hp, gb_eq s q hq, e]
theorem ok_of (c : Nat → Int) (h : ∀ k, k < 16 → 0 ≤ c k ∧ c k ≤ 256) : cOk c = true := by
  unfold cOk
  rw [List.all_eq_true]
  exact fun k hk => decide_eq_true (h k (List.mem_range.1 hk))
theorem tab_free (c : Nat → Int) (s : List UInt8) (h : freeB (cnt c 16) = false) : tabB c s = false := by simp [tabB, h]
theorem tab_good (c : Nat → Int) (s : List UInt8) (h1 : cOk c = true) (h2 : (cnt c 16).length = s.length) (h3 : s.Nodup) (h4 : freeB (cnt c 16) = true) : tabB c s = (decide (s = []) || decide (freeN (cnt c 16) ≠ 0)) := by
  simp only [tabB, h1, h2, h3, h4, decide_true, Bool.true_and, Bool.and_true]
end Cn
def TablePost (w : World) (c : Nat → Int) (s : List UInt8) (e : Ending) (w' : World) : Prop :=
  ∃ v n cs, e = .returned (.tuple #[v, .bool (Cn.tabB c s)]) ∧ Cds w' w.heap.size v n cs ∧ Below w.heap.size w w' ∧
    (Cn.tabB c s = false → v = .slice none 0 0) ∧ (Cn.tabB c s = true → cs.map Cd.s = Cn.syB s ∧ cs.map Cd.b = Cn.codes (Cn.cnt c 16))
theorem table_no (w w' : World) (c : Nat → Int) (s : List UInt8) (h : Cn.tabB c s = false) (hb : Below w.heap.size w w') : TablePost w c s (.returned (.tuple #[.slice none 0 0, .bool false])) w' :=
  ⟨_, 0, [], by rw [h], Cds.nil _ _, hb, fun _ => rfl, fun e => absurd (h.symm.trans e) (by decide)⟩
/-- The world behind the box of a JPEG's codes. -/
def boxW (w : World) (c : Nat → Int) (v : Value) : World := w.alloc (.cells #[.int .i64 (c 0), .int .i64 (c 1), .int .i64 (c 2), .int .i64 (c 3), .int .i64 (c 4), .int .i64 (c 5), .int .i64 (c 6), .int .i64 (c 7), .int .i64 (c 8), .int .i64 (c 9), .int .i64 (c 10), .int .i64 (c 11), .int .i64 (c 12), .int .i64 (c 13), .int .i64 (c 14), .int .i64 (c 15), v] 29)
theorem boxW_size (w : World) (c : Nat → Int) (v : Value) : (boxW w c v).heap.size = w.heap.size + 1 := by unfold boxW; exact Array.size_push _
theorem box_cell (w wr : World) (c : Nat → Int) (v : Value) (hb : Below (boxW w c v).heap.size (boxW w c v) wr) (m : Nat) (hm : m < 16) :
    wr.cell? ⟨w.heap.size, m, none⟩ = some (.int .i64 (c m)) ∧ wr.cell? ⟨w.heap.size, 16, none⟩ = some v := by
  have hz := boxW_size w c v
  rw [hb.cell (p := ⟨w.heap.size, m, none⟩) (by rw [hz]; exact Nat.lt_succ_self _), hb.cell (p := ⟨w.heap.size, 16, none⟩) (by rw [hz]; exact Nat.lt_succ_self _)]
  unfold boxW
  rw [World.cell?_alloc_at _ _ _ _ rfl, World.cell?_alloc_at _ _ _ _ rfl]
  match m, hm with
  | 0, _ => exact ⟨rfl, rfl⟩
  | 1, _ => exact ⟨rfl, rfl⟩
  | 2, _ => exact ⟨rfl, rfl⟩
  | 3, _ => exact ⟨rfl, rfl⟩
  | 4, _ => exact ⟨rfl, rfl⟩
  | 5, _ => exact ⟨rfl, rfl⟩
  | 6, _ => exact ⟨rfl, rfl⟩
  | 7, _ => exact ⟨rfl, rfl⟩
  | 8, _ => exact ⟨rfl, rfl⟩
  | 9, _ => exact ⟨rfl, rfl⟩
  | 10, _ => exact ⟨rfl, rfl⟩
  | 11, _ => exact ⟨rfl, rfl⟩
  | 12, _ => exact ⟨rfl, rfl⟩
  | 13, _ => exact ⟨rfl, rfl⟩
  | 14, _ => exact ⟨rfl, rfl⟩
  | 15, _ => exact ⟨rfl, rfl⟩
  | n + 16, h => omega
set_option maxHeartbeats 1000000 in
set_option maxRecDepth 100000 in
theorem refTable_any (c : Nat → Int) (a : Option Addr) (len cap : Nat) (s : List UInt8) (w : World) (h : Bs w a len cap s) (hlen : len ≤ 1000000) :
    Calls Try.prog 13 #[codesV c (.slice a len cap)] w (TablePost w c s) := by
  have HL := Lib.hid h.hlen
  have H := Lib.hid h
  clear h
  unfold codesV
  go_enter Try.func13, Try.ntmps13
  have HBX : Hid (∀ wr, Below (boxW w c (.slice a len cap)).heap.size (boxW w c (.slice a len cap)) wr → ∀ m, m < 16 → wr.cell? ⟨w.heap.size, m, none⟩ = some (.int .i64 (c m)) ∧ wr.cell? ⟨w.heap.size, 16, none⟩ = some (.slice a len cap)) := Lib.hid (fun wr hb m hm => box_cell w wr c _ hb m hm)
  have hb1 : Below w.heap.size w (boxW w c (.slice a len cap)) := below_alloc _ _
  go_wp2
  obtain ⟨w1, hw1⟩ : ∃ w1, boxW w c (.slice a len cap) = w1 := ⟨_, rfl⟩
  rw [hw1] at HBX hb1
  go_loopg [4, 5, 6] 16 (fun gk va vb s6 wr => ∃ m : Nat, m ≤ 16 ∧ gk = 16 - m ∧ s6 = .int .i64 m ∧ (Cn.cnt c m).length ≤ len ∧ Hid (P2 w1 wr va vb (Cn.syB (s.take (Cn.cnt c m).length)) (Cn.cnt c m)) ∧ Hid (∀ k, k < m → 0 ≤ c k ∧ c k ≤ 256))
  case atStart => exact ⟨0, by omega, by omega, rfl, by simp [Cn.cnt], by
    rw [← hw1]
    exact Lib.hid ⟨Below.refl _ _, World.ownsRow_nil _ _ _ _, World.ownsRow_nil _ _ _ _, fun k hk => by simp [Value.ownBlock] at hk⟩, Lib.hid (fun k hk => absurd hk (by omega))⟩
  clear hw1
  case round =>
    obtain ⟨m, hm, rfl, rfl, hT, HP, HK⟩ := hrel
    by_cases hm16 : m < 16
    · obtain ⟨c1, c2⟩ := HBX.out _ HP.out.bel m hm16
      by_cases hlo : c m < 0
      · have hno := Lib.hid (table_no w _ c s (Cn.tab_bad c s m hm16 (.inl hlo)) (below_then hb1 HP.out.bel))
        clear HP
        go_wp2
        go_ret2
        exact hno.out
      · by_cases hhi : 256 < c m
        · have hno := Lib.hid (table_no w _ c s (Cn.tab_bad c s m hm16 (.inr hhi)) (below_then hb1 HP.out.bel))
          clear HP
          go_wp2
          go_ret2
          exact hno.out
        · obtain ⟨cm, hcm⟩ := Int.eq_ofNat_of_zero_le (show 0 ≤ c m by omega)
          have HCM := Lib.hid hcm
          have hcm2 : cm ≤ 256 := by omega
          have hK2 := Lib.hid (show ∀ k, k < m + 1 → 0 ≤ c k ∧ c k ≤ 256 from fun k hk => by
            by_cases hkm : k < m
            · exact HK.out k hkm
            · obtain rfl : k = m := by omega
              exact ⟨by omega, by omega⟩)
          rw [hcm] at c1
          clear hlo hhi HK
          obtain ⟨T, hTe⟩ : ∃ T, (Cn.cnt c m).length = T := ⟨_, rfl⟩
          have hlong : (Cn.cnt c (m + 1)).length = T + cm := by rw [Cn.cnt_succ, List.length_append, List.length_replicate, hTe, hcm, Int.toNat_natCast]
          have hlong2 := Cn.cnt_le c (m + 1) 16 (by omega)
          have hcs := Lib.hid (Cn.cnt_succ c m)
          rw [hTe] at hT HP
          have HTE := Lib.hid hTe
          clear hTe hcm
          go_wp2
          generalize Value.bool (decide ((cm : Int) < 0)) = t21
          generalize Value.bool (decide (256 < (cm : Int))) = t27
          generalize Value.bool (decide ((cm : Int) < 0) || decide (256 < (cm : Int))) = t28
          clear c1 c2
          go_loopg [4, 5, 7] cm (fun gk va vb s7 wx => ∃ j : Nat, j ≤ cm ∧ gk = cm - j ∧ s7 = .int .i64 j ∧ T + j ≤ len ∧ Hid (P2 w1 wx va vb (Cn.syB (s.take (T + j))) (Cn.cnt c m ++ List.replicate j ((m + 1 : Nat) : Int))))
          case atStart => exact ⟨0, by omega, by omega, rfl, by omega, by simpa using HP⟩
          case round =>
            obtain ⟨j, hj, rfl, rfl, hTj, HQ⟩ := hrel
            obtain ⟨c1, c2⟩ := HBX.out _ HQ.out.bel m hm16
            rw [HCM.out] at c1
            by_cases hjc : j < cm
            · obtain ⟨sa, sc, rfl, _⟩ := own_is HQ.out.oa (wf_small (Cn.syB_small _))
              have hsl : (Cn.syB (s.take (T + j))).length = T + j := by rw [Cn.syB_length, List.length_take, HL.out]; omega
              rw [hsl] at HQ ⊢
              by_cases hfull : len ≤ T + j
              · have hno := Lib.hid (table_no w _ c s (Cn.tab_len c s (by rw [HL.out]; omega)) (below_then hb1 HQ.out.bel))
                clear HQ HP
                go_wp2
                go_ret2
                exact hno.out
              · obtain ⟨sb, so, rfl, _, x1⟩ := (H.out.mono (below_then hb1 HQ.out.bel)).at' (T + j) (by omega)
                have hx := gb_lt s (T + j)
                have HSY := Lib.hid (show Cn.syB (s.take (T + (j + 1))) = Cn.syB (s.take (T + j)) ++ [((gb s (T + j) : Nat) : Int)] from Cn.syB_take s (T + j) (by rw [HL.out]; omega))
                have HRP := Lib.hid (show Cn.cnt c m ++ List.replicate (j + 1) ((m + 1 : Nat) : Int) = (Cn.cnt c m ++ List.replicate j ((m + 1 : Nat) : Int)) ++ [((m + 1 : Nat) : Int)] by rw [List.replicate_succ', List.append_assoc])
                have hbl : (Cn.cnt c m ++ List.replicate j ((m + 1 : Nat) : Int)).length = T + j := by rw [List.length_append, List.length_replicate, HTE.out]
                clear HP hcs hK2
                generalize gb s (T + j) = X at *
                generalize Cn.syB (s.take (T + j)) = A at *
                generalize Cn.cnt c m ++ List.replicate j ((m + 1 : Nat) : Int) = B at *
                have HQ1 := Lib.hid (HQ.out.mono (below_alloc wr (.cells #[Value.int .i64 (X : Nat)] 3)))
                have oa := Lib.hid HQ1.out.oa
                have hsrc := src_int wr (X : Nat)
                have hbb : w1.heap.size ≤ (wr.alloc (.cells #[Value.int .i64 (X : Nat)] 3)).heap.size := HQ1.out.bel.size
                go_wp2_with (at_builtin; refine wpl_append3 tyI rfl _ _ rfl oa.out hsrc rfl rfl (by omega) (by omega) hbb ?_)
                intro v4 w4 own4 c4 f4
                rw [← ivs_append] at own4
                have HQ2 := Lib.hid (HQ1.out.stepA (la' := A ++ [(X : Int)]) (by rw [List.length_append, hsl]; exact own4) c4 (by simpa using f4))
                clear own4 c4 f4 hsrc hbb oa HQ1
                have HQ3 := Lib.hid (HQ2.out.mono (below_alloc w4 (.cells #[Value.int .i64 ((m + 1 : Nat) : Int)] 3)))
                have ob := Lib.hid HQ3.out.ob
                have hsrc := src_int w4 ((m + 1 : Nat) : Int)
                have hbb : w1.heap.size ≤ (w4.alloc (.cells #[Value.int .i64 ((m + 1 : Nat) : Int)] 3)).heap.size := HQ3.out.bel.size
                go_wp2_with (at_builtin; refine wpl_append3 tyI rfl _ _ rfl ob.out hsrc rfl rfl (by omega) (by omega) hbb ?_)
                intro v5 w5 own5 c5 f5
                rw [← ivs_append] at own5
                have HQ4 := Lib.hid (HQ3.out.stepB (lb' := B ++ [((m + 1 : Nat) : Int)]) (by rw [List.length_append, hbl]; exact own5) c5 (by simpa using f5))
                clear own5 c5 f5 hsrc hbb ob HQ3 HQ2
                rw [← HSY.out, ← HRP.out] at HQ4
                go_wp2
                go_roundg (cm - (j + 1))
                case measure => omega
                case rel => exact ⟨j + 1, by omega, rfl, by go_num, by omega, HQ4⟩
            · have hje : j = cm := by omega
              have e1 : Cn.cnt c m ++ List.replicate j ((m + 1 : Nat) : Int) = Cn.cnt c (m + 1) := by rw [hcs.out, HCM.out, hje]; simp
              have e2 : T + j = (Cn.cnt c (m + 1)).length := by rw [hlong, hje]
              have hT2 : (Cn.cnt c (m + 1)).length ≤ len := by omega
              rw [e1, e2] at HQ
              clear e1 e2 hcs hlong hlong2 HP hT hTj
              go_wp2
              go_roundg (16 - (m + 1))
              case measure => omega
              case rel => exact ⟨m + 1, by omega, rfl, by go_num, hT2, HQ, hK2⟩
    · obtain rfl : m = 16 := by omega
      rename World => wq
      obtain ⟨T, hTe⟩ : ∃ T, (Cn.cnt c 16).length = T := ⟨_, rfl⟩
      have HTE := Lib.hid hTe
      rw [hTe] at hT HP
      have hsl : (Cn.syB (s.take T)).length = T := by rw [Cn.syB_length, List.length_take, HL.out]; omega
      obtain ⟨sa, sc, rfl, hsi⟩ := own_is HP.out.oa (wf_small (Cn.syB_small _))
      obtain ⟨za, zc, rfl, hzi⟩ := own_is HP.out.ob (wf_small (fun x hx => by have := Cn.cnt_bound c 16 (by omega) x hx; omega))
      rw [hTe] at hzi ⊢
      rw [hsl] at hsi ⊢
      obtain ⟨_, c2⟩ := HBX.out _ HP.out.bel 0 (by omega)
      have hbel := below_then hb1 HP.out.bel
      clear HP hTe hsl HBX hb1
      have HSI := Lib.hid hsi
      have HZI := Lib.hid hzi
      clear hsi hzi
      by_cases hTl : T = len
      · have hst : s.take T = s := List.take_of_length_le (by rw [HL.out]; omega)
        rw [hst] at HSI
        clear hst
        have HTL := Lib.hid hTl
        have hTl2 : len ≤ T := by omega
        clear hTl
        go_wp2
        clear c2
        go_loopg [8] T (fun gk s8 wx => ∃ i : Nat, i ≤ T ∧ gk = T - i ∧ s8 = .int .i64 i ∧ (∃ d, wx = wq.drewN d) ∧ Hid (∀ p q, p < q → q < i → gb s p ≠ gb s q))
        case atStart => exact ⟨0, by omega, by omega, rfl, ⟨0, rfl⟩, Lib.hid (fun p q _ h => absurd h (by omega))⟩
        case round =>
          obtain ⟨i, hi, rfl, rfl, ⟨d0, rfl⟩, HD⟩ := hrel
          by_cases hiT : i < T
          · go_wp2
            go_loopg [9] i (fun gk s9 wx => ∃ k : Nat, k ≤ i ∧ gk = i - k ∧ s9 = .int .i64 k ∧ (∃ d, wx = wq.drewN d) ∧ Hid (∀ p, p < k → gb s p ≠ gb s i))
            case atStart => exact ⟨0, by omega, by omega, rfl, ⟨_, rfl⟩, Lib.hid (fun p h => absurd h (by omega))⟩
            case round =>
              obtain ⟨k, hk, rfl, rfl, ⟨d1, rfl⟩, HE⟩ := hrel
              by_cases hki : k < i
              · have hks : k < s.length := by rw [HL.out]; omega
                have his : i < s.length := by rw [HL.out]; omega
                have g1 := Cn.syB_get s k hks
                have g2 := Cn.syB_get s i his
                obtain ⟨b1, o1, rfl, _, x1⟩ := HSI.out.at' k (by omega)
                have x2 := cell_at HSI.out i hiT
                rw [g1] at x1
                rw [g2] at x2
                clear g1 g2 hks
                by_cases he : gb s k = gb s i
                · have hno := Lib.hid (fun d => table_no w (wq.drewN d) c s (Cn.tab_dup c s k i hki his he) (below_then hbel (drewN_is wq d)))
                  rw [he] at x1
                  clear his he HE HD
                  generalize ((gb s i : Nat) : Int) = Y at *
                  go_wp2
                  go_quiet (fail)
                  go_wp2
                  go_ret2
                  rw [drewN_two]
                  exact hno.out _
                · have HE2 := Lib.hid (show ∀ p, p < k + 1 → gb s p ≠ gb s i from fun p hp => by
                    by_cases hpk : p < k
                    · exact HE.out p hpk
                    · obtain rfl : p = k := by omega
                      exact he)
                  have hd : (((gb s k : Nat) : Int) == ((gb s i : Nat) : Int)) = false := by simp only [beq_eq_false_iff_ne, ne_eq]; omega
                  clear his he
                  generalize ((gb s k : Nat) : Int) = X at *
                  generalize ((gb s i : Nat) : Int) = Y at *
                  go_wp2
                  go_quiet (fail)
                  go_wp2
                  go_roundg (i - (k + 1))
                  case measure => omega
                  case rel => exact ⟨k + 1, by omega, rfl, by go_num, ⟨_, rfl⟩, HE2⟩
              · have hki2 : k = i := by omega
                have HD2 := Lib.hid (show ∀ p q, p < q → q < i + 1 → gb s p ≠ gb s q from fun p q hpq hq => by
                  by_cases hqi : q < i
                  · exact HD.out p q hpq hqi
                  · obtain rfl : q = i := by omega
                    exact HE.out p (by omega))
                go_wp2
                go_roundg (T - (i + 1))
                case measure => omega
                case rel => exact ⟨i + 1, by omega, rfl, by go_num, ⟨_, rfl⟩, HD2⟩
          · have hiT2 : i = T := by omega
            have hnd := Cn.nodup_of s (fun p q hpq hq => HD.out p q hpq (by rw [HL.out] at hq; omega))
            have hok := Cn.ok_of c HK.out
            have hls : (Cn.cnt c 16).length = s.length := by rw [HTE.out, HL.out, HTL.out]
            have HG := Lib.hid (fun h4 => Cn.tab_good c s hok hls hnd h4)
            have HF := Lib.hid (Cn.tab_free c s)
            have hbel2 := below_then hbel (drewN_is wq d0)
            have HSI2 := Lib.hid (HSI.out.mono (drewN_is wq d0))
            have HZI2 := Lib.hid (HZI.out.mono (drewN_is wq d0))
            clear HSI HZI hbel hnd hok hls HD HK hiT2
            generalize wq.drewN d0 = wz at *
            go_wp2_with fail
            refine (refFree_any za T zc (Cn.cnt c 16) _ HZI2.out (by omega)).mono ?_
            rintro e w2 ⟨rfl, rfl⟩
            generalize hfb : Cn.freeB (Cn.cnt c 16) = fb at *
            cases fb
            · have hno := Lib.hid (table_no w _ c s (HF.out rfl) hbel2)
              clear HG HF HSI2 HZI2
              go_wp2
              go_ret2
              exact hno.out
            · have hg := HG.out rfl
              generalize Cn.freeN (Cn.cnt c 16) = fr at *
              clear HG HF
              go_wp2_with fail
              refine (list_any sa T sc (Cn.syB s) za zc (Cn.cnt c 16) _ HSI2.out HZI2.out (by omega) (Cn.cnt_bound c 16 (by omega))).mono ?_
              rintro e w3 ⟨v, cs, rfl, hcs, e1, e2, hb2⟩
              have hcs2 := hcs.base hbel2.size
              have hb3 := below_then hbel2 hb2
              clear HSI2 HZI2 hb2 hbel2 hfb
              obtain ⟨va, vc, rfl, _⟩ := hcs2.cells
              by_cases hs0 : T = 0
              · have hsn : s = [] := List.eq_nil_of_length_eq_zero (by rw [HL.out]; omega)
                have ht : Cn.tabB c s = true := by rw [hg, hsn]; rfl
                have hpost := Lib.hid (show TablePost w c s (.returned (.tuple #[.slice va T vc, .bool true])) w3 from ⟨_, T, cs, by rw [ht], hcs2, hb3, fun h => by rw [ht] at h; exact absurd h (by decide), fun _ => ⟨e1, e2⟩⟩)
                clear hcs hcs2 e1 e2 hg ht hsn
                subst hs0
                go_wp2
                go_ret2
                exact hpost.out
              · have hsn : s ≠ [] := fun h => by have := HL.out; rw [h] at this; simp at this; omega
                by_cases hf0 : fr = 0
                · have ht : Cn.tabB c s = false := by rw [hg, decide_eq_false hsn, decide_eq_false (fun h => h hf0)]; rfl
                  have hno := Lib.hid (table_no w _ c s ht hb3)
                  clear hcs hcs2 e1 e2 hg ht hsn
                  subst hf0
                  go_wp2
                  go_ret2
                  exact hno.out
                · have ht : Cn.tabB c s = true := by rw [hg, decide_eq_true (show fr ≠ 0 from hf0), Bool.or_true]
                  have hpost := Lib.hid (show TablePost w c s (.returned (.tuple #[.slice va T vc, .bool true])) w3 from ⟨_, T, cs, by rw [ht], hcs2, hb3, fun h => by rw [ht] at h; exact absurd h (by decide), fun _ => ⟨e1, e2⟩⟩)
                  have df : (fr == 0) = false := by simpa using hf0
                  clear hcs hcs2 e1 e2 hg ht hsn
                  go_wp2
                  go_ret2
                  exact hpost.out
      · have hno := Lib.hid (table_no w _ c s (Cn.tab_len c s (by rw [HL.out, HTE.out]; exact hTl)) hbel)
        go_wp2
        go_ret2
        exact hno.out
end Go.Proofs.Ytcagdnajapcmkaa
