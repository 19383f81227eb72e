/- canon.tableLengths: its contract. -/
import Derived.Test.YtnlbomijnldlmaaTabMath
import Derived.Test.YtnlbomijnldlmaaBookOf
namespace Go.Proofs.Ytnlbomijnldlmaa
open Go.RowKit

theorem wpl_load {P : Program} {w : World} {ops : Array Oper} {rest : List Oper} {o : Oper} {a : Act} {Q : Exit → Act → World → Prop} (hg : o.guard = none) (ty : TypeId) (x : Operand) (hop : o.op = .load ty x)
    (ad : Addr) (hx : a.eval x = .pointer (some ad)) (u : Value) (hrun : (loadVar ty ad).run P w = .ok u w) (hK : wpList P ops Q rest (a.put o.dst u) w) : wpList P ops Q (o :: rest) a w := by
  refine wpList_plain hg fun K hK' => ?_
  unfold Oper.wp
  simp [execOp, hop, hx, Instr.loadAt, Instr.sureAddr, Sem.run_bind, hrun, Result.andThen]
  exact hK' _ _ hK
namespace Bk
def cvals (c : Nat → Int) : List Value := (List.range 16).map fun n => .int .i64 (c n)
theorem cvals_get (c : Nat → Int) (n : Nat) (h : n < 16) : (cvals c)[n]? = some (.int .i64 (c n)) := by simp [cvals, List.getElem?_range h]
theorem idx_cnt (w : World) (c : Nat → Int) (n : Nat) (hn : n < 16) : (Instr.index 47 (.agg (cvals c).toArray) (.int .i64 (n : Nat))).run Try.prog w = .ok (.int .i64 (c n)) w := by
  have h1 := cvals_get c n hn
  have hu := run_underlying Try.underlying47 w
  have hlt : (0 : Int) ≤ (n : Int) ∧ (n : Int) < ((16 : Nat) : Int) := by omega
  unfold Instr.index
  simp [go_sem]
  rw [if_pos hn, h1]
  simp [go_sem]
theorem load_cnt (w wr : World) (c : Nat → Int) (v : Value) (hb : Below (boxW w c v).heap.size (boxW w c v) wr) : (loadVar 47 ⟨w.heap.size, 0, none⟩).run Try.prog wr = .ok (.agg (cvals c).toArray) wr := by
  have hz := boxW_size w c v
  have hg : wr.heap[w.heap.size]? = (boxW w c v).heap[w.heap.size]? := hb.block _ (by rw [hz]; omega)
  refine run_load_front wr w.heap.size _ _ _ (0, 0) _ _ (hg.trans (heap_alloc_last w _)) (fun j u hj => ?_) Try.underlying47 rfl (by kernel_rfl)
  have hj16 : j < 16 := by have := (List.getElem?_eq_some_iff.1 hj).1; simpa [cvals] using this
  rw [cvals_get c j hj16] at hj
  cases hj
  have := (box_cell w (boxW w c v) c v (Below.refl _ _) j hj16).1
  unfold boxW at this
  rw [World.cell?_alloc_at _ _ _ _ rfl] at this
  exact this
theorem bs_step {w : World} {a : Option Addr} {n cap : Nat} {l : List UInt8} (h : Bs w a n cap l) (ha : ∀ ad, a = some ad → ∃ b o, ad = ⟨b, o, none⟩) (q : Nat) (hq : q ≤ n) (ao : Option Addr) (hao : ∀ b o, a = some ⟨b, o, none⟩ → ¬ cap = q → ao = some ⟨b, o + q, none⟩) (hn : a = none → ao = none) :
    Bs w ao (n - q) (cap - q) (l.drop q) := by
  cases hA : a with
  | none =>
    rw [hA] at h
    have h0 := h.hnil rfl
    have h1 := h.hle
    have h2 := h.hlen
    rw [hn hA]
    exact ⟨by rw [List.length_drop]; omega, by omega, by omega, by omega, fun _ => by omega, fun i hi => by omega⟩
  | some ad =>
    obtain ⟨b, o, rfl⟩ := ha ad hA
    rw [hA] at h
    exact h.drop q hq ao (fun hne => hao b o hA hne)
/-- What lies in memory while lengths are set. -/
structure TL (w0 wx : World) (q : Nat) (s : List UInt8) (P : Nat) (ps : List (Nat × Int)) (zs : List Int) : Prop where
  bel : Below w0.heap.size w0 wx
  ow : wx.ownsRow w0.heap.size 3 1 (.slice (some ⟨q, 0, none⟩) 256 256) 256 (ivs (tl ps))
  p1 : ps.map (·.1) = (s.take P).map (·.toNat)
  p2 : ps.map (·.2) = zs
  nd : (ps.map (·.1)).Nodup
theorem TL.lt {w0 wx : World} {q : Nat} {s : List UInt8} {P : Nat} {ps : List (Nat × Int)} {zs : List Int} (h : TL w0 wx q s P ps zs) : ∀ p ∈ ps, p.1 < 256 := fun p hp => by
  have : p.1 ∈ ps.map (·.1) := List.mem_map.2 ⟨p, hp, rfl⟩
  rw [h.p1, List.mem_map] at this
  obtain ⟨x, _, e⟩ := this
  rw [← e]; exact x.toNat_lt
theorem TL.push {w0 wx : World} {q : Nat} {s : List UInt8} {P : Nat} {ps : List (Nat × Int)} {zs : List Int} (h : TL w0 wx q s P ps zs) (hP : P < s.length) (hno : gb s P ∉ ps.map (·.1)) (n : Int) :
    TL w0 (wx.setCell ⟨q, gb s P, none⟩ (.int .i64 n)) q s (P + 1) (ps ++ [(gb s P, n)]) (zs ++ [n]) := by
  refine ⟨h.bel.setCell (p := ⟨q, gb s P, none⟩) (h.ow.lt q rfl).1 _, by rw [tl_snoc]; exact own_set h.ow _ _, ?_, by rw [List.map_append, h.p2]; rfl, ?_⟩
  · rw [List.map_append, h.p1, take_succ_getD s P hP, List.map_append]; rfl
  · rw [List.map_append, List.nodup_append]
    refine ⟨h.nd, by simp, fun a ha b hb e => ?_⟩
    simp only [List.map_cons, List.map_nil, List.mem_singleton] at hb
    subst hb; subst e; exact hno ha
def TabPost (w : World) (c : Nat → Int) (s : List UInt8) (e : Ending) (w' : World) : Prop :=
  ∃ a n cap L ok, e = .returned (.tuple #[.slice a n cap, .bool ok]) ∧ Is .i64 w' a n cap L ∧ n ≤ 256 ∧ Below w.heap.size w w' ∧ (ok = false → Cn.tabB c s = false) ∧ (ok = true → (∃ ps, TabOk c s ps ∧ L = tl ps) ∧ n = 256 ∧ ∀ k, k < 16 → 0 ≤ c k)
theorem tabp_no (w w' : World) (c : Nat → Int) (s : List UInt8) (h : Cn.tabB c s = false) (hb : Below w.heap.size w w') : TabPost w c s (.returned (.tuple #[.slice none 0 0, .bool false])) w' :=
  ⟨none, 0, 0, [], false, rfl, is_nil _, by omega, hb, fun _ => h, fun h => by cases h⟩
theorem tab_gt (c : Nat → Int) (s : List UInt8) (m : Nat) (hm : m < 16) (h : s.length < (Cn.cnt c m).length + (c m).toNat) : Cn.tabB c s = false := by
  refine Cn.tab_len c s (fun e => ?_)
  have h1 := Cn.cnt_le c (m + 1) 16 (by omega)
  rw [Cn.cnt_succ, List.length_append, List.length_replicate] at h1
  omega
set_option maxRecDepth 100000 in
set_option maxHeartbeats 4000000 in
theorem tabLen_any (c : Nat → Int) (a : Option Addr) (len cap : Nat) (s : List UInt8) (w : World) (h : Bs w a len cap s) (hlen : len ≤ 1000000) (ha : ∀ ad, a = some ad → ∃ b o, ad = ⟨b, o, none⟩) :
    Calls Try.prog 40 #[codesV c (.slice a len cap)] w (TabPost w c s) := by
  have HL := Lib.hid h.hlen
  have H := Lib.hid h
  clear h
  unfold codesV
  go_enter Try.func40, Try.ntmps40
  have HBX : Hid (∀ wr, Below (boxW w c (.slice a len cap)).heap.size (boxW w c (.slice a len cap)) wr → wr.cell? ⟨w.heap.size, 16, none⟩ = some (.slice a len cap) ∧ (loadVar 47 ⟨w.heap.size, 0, none⟩).run Try.prog wr = .ok (.agg (cvals c).toArray) wr) := Lib.hid (fun wr hb => ⟨(box_cell w wr c _ hb 0 (by omega)).2, load_cnt w wr c _ hb⟩)
  have hb1 : Below w.heap.size w (boxW w c (.slice a len cap)) := below_alloc _ _
  go_wp2_with (at_make; refine wpl_make_full tyI rfl _ _ rfl (boxW w c (.slice a len cap)).heap.size .i64 .i64 _ _ 256 rfl rfl rfl rfl (by omega) (by omega) (Nat.le_refl _) ?_)
  intro w1 own1 hg1
  have hgb : (boxW w c (.slice a len cap)).grownBy w1 none := hg1
  clear hg1
  obtain ⟨w0, hw0⟩ : ∃ w0, boxW w c (.slice a len cap) = w0 := ⟨_, rfl⟩
  have hz0 : w0.heap.size = w.heap.size + 1 := by rw [← hw0]; exact boxW_size w c _
  rw [hw0] at HBX hb1 own1 hgb
  have hb0 : Below w0.heap.size w0 w1 := (Below.refl _ _).grown hgb (Nat.le_refl _) (by simp)
  have own2 : w1.ownsRow w0.heap.size 3 1 (.slice (some ⟨w.heap.size + 1, 0, none⟩) 256 256) 256 (ivs (tl [])) := by
    have e := made_ints1 256
    rw [Nat.mul_one] at e
    show w1.ownsRow w0.heap.size 3 1 _ 256 (ivs (List.replicate 256 0))
    rw [← e]; exact own1
  have ST : Hid (TL w0 w1 (w.heap.size + 1) s 0 [] []) := Lib.hid ⟨hb0, own2, by simp, rfl, by simp⟩
  obtain ⟨cb, cl⟩ := HBX.out w1 hb0
  have HLD := Lib.hid cl
  have HB0 := Lib.hid hb1
  clear own1 own2 hgb hb0 hw0 cl hb1
  generalize w.heap.size + 1 = q at *
  generalize hbx : w.heap.size = bx at *
  have HBE := Lib.hid hbx
  clear hbx
  go_wp2_with (refine wpl_load rfl 47 _ rfl ⟨bx, 0, none⟩ rfl _ HLD.out ?_)
  clear cb HLD
  have H0 := Lib.hid (show ∀ ad, a = some ad → ∃ b o, ad = ⟨b, o, none⟩ from ha)
  have HR0 : Hid (Bs w0 a (len - 0) cap (s.drop 0)) := Lib.hid (by simpa using H.out.mono (by rw [HBE.out]; exact HB0.out))
  generalize Value.agg #[.int .i64 (c 0), .int .i64 (c 1), .int .i64 (c 2), .int .i64 (c 3), .int .i64 (c 4), .int .i64 (c 5), .int .i64 (c 6), .int .i64 (c 7), .int .i64 (c 8), .int .i64 (c 9), .int .i64 (c 10), .int .i64 (c 11), .int .i64 (c 12), .int .i64 (c 13), .int .i64 (c 14), .int .i64 (c 15), .slice a len cap] = agv
  clear ha HBX
  have hq : w0.heap.size ≤ q := by omega
  clear hz0
  go_wp2
  go_loopw [5, 15] (fun rv iv wr => ∃ (m P : Nat) (ar : Option Addr) (cr : Nat) (ps : List (Nat × Int)), m ≤ 16 ∧ iv = .int .i64 m ∧ P = (Cn.cnt c m).length ∧ P ≤ len ∧ rv = .slice ar (len - P : Nat) cr ∧ Hid (∀ ad, ar = some ad → ∃ b o, ad = ⟨b, o, none⟩) ∧ Hid (Bs w0 ar (len - P) cr (s.drop P)) ∧ Hid (∀ k, k < m → 0 ≤ c k) ∧ Hid (TL w0 wr q s P ps (Cn.cnt c m))) (fun _ i _ => 16 - (intOf i).toNat)
  case atStart => exact ⟨0, 0, a, cap, [], by omega, rfl, by simp [Cn.cnt], by omega, rfl, H0, HR0, Lib.hid (fun k hk => absurd hk (by omega)), ST⟩
  case round =>
    obtain ⟨m, P, ar, cr, ps, hm, rfl, hP, hPl, rfl, HA, HR, HK, HT⟩ := hrel
    have HPE := Lib.hid hP
    clear hP
    have hcr := HR.out.hle
    by_cases hm16 : m < 16
    · have hix := fun w => idx_cnt w c m hm16
      have HTN := Lib.hid (fun (hc : c m < 0) => Cn.tab_bad c s m hm16 (.inl hc))
      have HTG := Lib.hid (fun (hc : s.length < (Cn.cnt c m).length + (c m).toNat) => tab_gt c s m hm16 hc)
      have HBW : Hid (∀ wx, Below w0.heap.size w0 wx → Below w.heap.size w wx) := Lib.hid (fun wx hb => by
        have h1 := HB0.out
        rw [← HBE.out] at h1
        exact h1.trans (hb.mono h1.size))
      by_cases hneg : c m < 0
      · have dn : decide (c m < 0) = true := by simpa using hneg
        have HN := Lib.hid (tabp_no w wr c s (HTN.out hneg) (HBW.out _ HT.out.bel))
        clear hneg HTN HTG
        generalize c m = z at *
        go_wp2
        go_ret2
        exact HN.out
      · obtain ⟨k, hk⟩ := Int.eq_ofNat_of_zero_le (show 0 ≤ c m by omega)
        have hcs := Cn.cnt_succ c m
        rw [hk] at hix hcs
        rw [Int.toNat_natCast] at hcs
        have HK2 : Hid (∀ j, j < m + 1 → 0 ≤ c j) := Lib.hid (fun j hj => by
          by_cases h : j < m
          · exact HK.out j h
          · obtain rfl : j = m := by omega
            omega)
        by_cases hgt : len - P < k
        · have dg : decide (len - P < k) = true := by simpa using hgt
          have HN := Lib.hid (tabp_no w wr c s (HTG.out (by rw [hk, Int.toNat_natCast, ← HPE.out, HL.out]; omega)) (HBW.out _ HT.out.bel))
          clear hneg HTN HTG hk hcs
          go_wp2
          go_ret2
          exact HN.out
        · have dg : decide (len - P < k) = false := by simpa using hgt
          have HCS := Lib.hid hcs
          clear hneg HTN HTG hk hcs
          cases ar with
          | none =>
            have hc0 := HR.out.hnil rfl
            have hk0 : k = 0 := by omega
            have hl0 : len - P = 0 := by omega
            subst hc0
            subst hk0
            rw [hl0] at HR ⊢
            have HCS0 : Cn.cnt c (m + 1) = Cn.cnt c m := by rw [HCS.out]; simp
            rw [← HCS0] at HPE HT
            have HR0' := Lib.hid HR.out
            have HPN : Hid (len - P = 0) := Lib.hid hl0
            clear HCS0 hl0 dg hgt hcr HR HCS
            go_wp2
            go_loopw [31] (fun iv wx => iv = .int .i64 0 ∧ wx = wr) (fun _ _ => 0)
            case atStart => exact ⟨rfl, rfl⟩
            case round =>
              obtain ⟨rfl, rfl⟩ := hrel
              go_wp2
              refine ⟨⟨m + 1, P, none, 0, ps, by omega, by go_num, HPE.out, hPl, by rw [HPN.out], HA, by rw [HPN.out]; exact HR0', HK2, HT⟩, ?_⟩
              simp [intOf]; omega
          | some ad =>
            obtain ⟨b1, o1, rfl⟩ := HA.out ad rfl
            go_wp2
            generalize Value.bool (decide ((k : Int) < 0)) = tk at *
            go_loopw [31] (fun iv wx => ∃ (j : Nat) (qs : List (Nat × Int)), j ≤ k ∧ iv = .int .i64 j ∧ Hid (TL w0 wx q s (P + j) qs (Cn.cnt c m ++ List.replicate j ((m + 1 : Nat) : Int)))) (fun i _ => k - (intOf i).toNat)
            case atStart => exact ⟨0, ps, by omega, rfl, by simpa using HT⟩
            case round =>
              obtain ⟨j, qs, hj, rfl, HQ⟩ := hrel
              by_cases hjk : j < k
              · obtain ⟨b2, o2, e2, _, cs⟩ := (HR.out.mono HQ.out.bel).at' j (by omega)
                simp only [Option.some.injEq, Addr.mk.injEq, and_true] at e2
                obtain ⟨rfl, rfl⟩ := e2
                have egb : gb (s.drop P) j = gb s (P + j) := by simp [gb, List.getD, List.getElem?_drop]
                rw [egb] at cs
                have hPs : P + j < s.length := by rw [HL.out]; omega
                have hx := gb_lt s (P + j)
                have hcl : wr.cell? ⟨q, gb s (P + j), none⟩ = some (.int .i64 ((tl qs).getD (gb s (P + j)) 0)) := by
                  rw [HQ.out.ow.cellAt _ (by omega), ivs_get _ _ (by rw [tl_length]; exact hx)]
                obtain ⟨t1, t2⟩ := tl_get qs (gb s (P + j)) hx HQ.out.nd
                by_cases hmem : gb s (P + j) ∈ qs.map (·.1)
                · obtain ⟨pr, hpr, he⟩ := List.mem_map.1 hmem
                  have hval := t1 pr.2 (by rw [← he]; exact hpr)
                  have hge : 1 ≤ pr.2 := by
                    have h1 : pr.2 ∈ qs.map (·.2) := List.mem_map.2 ⟨pr, hpr, rfl⟩
                    rw [HQ.out.p2, List.mem_append] at h1
                    rcases h1 with h1 | h1
                    · exact (cnt_low c m _ h1).1
                    · rw [List.mem_replicate] at h1; omega
                  have hbad : Cn.tabB c s = false := by
                    rw [HQ.out.p1, List.mem_map] at hmem
                    obtain ⟨y, hy, ey⟩ := hmem
                    obtain ⟨i, hi, e3⟩ := List.getElem_of_mem hy
                    rw [List.length_take] at hi
                    refine Cn.tab_dup c s i (P + j) (by omega) hPs ?_
                    rw [← ey, ← e3, List.getElem_take, Cn.gb_eq s i (by omega)]
                  have HN := Lib.hid (tabp_no w wr c s hbad (HBW.out _ HQ.out.bel))
                  rw [hval] at hcl
                  have dp : decide (0 < pr.2) = true := by simp; omega
                  clear hval hge hbad t1 t2 hmem hpr he
                  generalize pr.2 = pv at *
                  generalize gb s (P + j) = x at *
                  go_wp2
                  go_ret2
                  exact HN.out
                · have hval := t2 hmem
                  rw [hval] at hcl
                  have HP2 := Lib.hid (HQ.out.push hPs hmem ((m + 1 : Nat) : Int))
                  have er : Cn.cnt c m ++ List.replicate j ((m + 1 : Nat) : Int) ++ [((m + 1 : Nat) : Int)] = Cn.cnt c m ++ List.replicate (j + 1) ((m + 1 : Nat) : Int) := by rw [List.append_assoc, List.replicate_succ']
                  rw [er, show ((m + 1 : Nat) : Int) = (m : Int) + 1 by omega] at HP2
                  have f1 : wr.frozen? ⟨q, gb s (P + j), none⟩ = false := by
                    rcases HQ.out.ow.2 with ⟨h1, _⟩ | ⟨g2, cap2, cur, h1, _, hg, _⟩
                    · simp at h1
                    · simp only [Value.slice.injEq, Option.some.injEq, Addr.mk.injEq, and_true, true_and] at h1
                      obtain ⟨rfl, rfl⟩ := h1
                      exact frozen_of_row _ _ _ _ _ hg
                  clear hval t1 t2 hmem er HQ
                  generalize gb s (P + j) = x at *
                  go_wp2
                  go_roundw
                  case rel => exact ⟨j + 1, _, by omega, by go_num, by rw [show ((m + 1 : Nat) : Int) = (m : Int) + 1 by omega]; exact HP2⟩
                  case measure => simp [intOf]; omega
              · obtain rfl : k = j := by omega
                rw [← HCS.out] at HQ
                have HBN := Lib.hid (bs_step HR.out HA.out k (by omega) (if cr = k then some ⟨b1, o1, none⟩ else some ⟨b1, o1 + k, none⟩) (fun b o e hne => by cases e; rw [if_neg hne]) (fun e => by cases e))
                have HAN : Hid (∀ ad, (if cr = k then some (⟨b1, o1, none⟩ : Addr) else some ⟨b1, o1 + k, none⟩) = some ad → ∃ b o, ad = ⟨b, o, none⟩) := Lib.hid (fun ad e => by
                  split at e
                  · cases e; exact ⟨_, _, rfl⟩
                  · cases e; exact ⟨_, _, rfl⟩)
                have HPN : Hid (P + k = (Cn.cnt c (m + 1)).length ∧ len - P - k = len - (P + k)) := Lib.hid ⟨by rw [HCS.out, List.length_append, List.length_replicate, ← HPE.out], by omega⟩
                rw [List.drop_drop] at HBN
                go_wp2
                refine ⟨⟨m + 1, P + k, _, _, qs, by omega, by go_num, HPN.out.1, by omega, by rw [← HPN.out.2], HAN, by rw [← HPN.out.2]; exact HBN, HK2, HQ⟩, ?_⟩
                simp [intOf]; omega
    · obtain rfl : m = 16 := by omega
      have hPl2 : len - P ≤ 1000000 := by omega
      by_cases hfull : len = P
      · have e0 : len - P = 0 := by omega
        have HOK : Hid (TabPost w c s (.returned (.tuple #[.slice (some ⟨q, 0, none⟩) 256 256, .bool true])) wr) := Lib.hid (by
          have hok : TabOk c s ps := by
            refine ⟨?_, HT.out.p2, HT.out.nd, HT.out.lt⟩
            have h1 := HT.out.p1
            rw [← hfull, List.take_of_length_le (by rw [HL.out]; exact Nat.le_refl _)] at h1
            have h2 := congrArg (List.map fun (n : Nat) => (n : Int)) h1
            rw [List.map_map, List.map_map] at h2
            exact h2
          have hwf : Wf (tl ps) := wf_small (fun x hx => by
            obtain ⟨i, hi, rfl⟩ := List.getElem_of_mem hx
            have := tl_form c s ps hok i (by rw [tl_length] at hi; exact hi)
            simp only [List.getD, List.getElem?_eq_getElem hi, Option.getD_some] at this
            omega)
          have his := is_of_own HT.out.ow hwf 0 256 256 (by omega) (by omega)
          rw [List.drop_zero, List.take_of_length_le (by rw [tl_length]; exact Nat.le_refl _)] at his
          refine ⟨some ⟨q, 0, none⟩, 256, 256, tl ps, true, rfl, by simpa using his, by omega, ?_, (fun h => by cases h), (fun _ => ⟨⟨ps, hok, rfl⟩, rfl, HK.out⟩)⟩
          have h1 := HB0.out
          rw [← HBE.out] at h1
          exact h1.trans (HT.out.bel.mono h1.size))
        clear hfull
        go_wp2
        go_ret2
        exact HOK.out
      · have d0 : (((len - P : Nat) : Int) == 0) = false := by simp; omega
        have HNO : Hid (TabPost w c s (.returned (.tuple #[.slice (some ⟨q, 0, none⟩) 256 256, .bool false])) wr) := Lib.hid (by
          have hbad : Cn.tabB c s = false := Cn.tab_len c s (by rw [← HPE.out, HL.out]; omega)
          have hwf : Wf (tl ps) := wf_small (fun x hx => by
            obtain ⟨i, hi, rfl⟩ := List.getElem_of_mem hx
            rw [tl_length] at hi
            obtain ⟨h1, h2⟩ := tl_get ps i hi HT.out.nd
            have e : (tl ps).getD i 0 = (tl ps)[i]'(by rw [tl_length]; exact hi) := by simp [List.getD, List.getElem?_eq_getElem (show i < (tl ps).length by rw [tl_length]; exact hi)]
            rw [← e]
            by_cases hm : i ∈ ps.map (·.1)
            · obtain ⟨pr, hpr, rfl⟩ := List.mem_map.1 hm
              rw [h1 pr.2 hpr]
              have h3 : pr.2 ∈ ps.map (·.2) := List.mem_map.2 ⟨pr, hpr, rfl⟩
              rw [HT.out.p2] at h3
              have := cnt_low c 16 _ h3
              omega
            · rw [h2 hm]; omega)
          have his := is_of_own HT.out.ow hwf 0 256 256 (by omega) (by omega)
          refine ⟨some ⟨q, 0, none⟩, 256, 256, _, false, rfl, by simpa using his, by omega, ?_, (fun _ => hbad), (fun h => by cases h)⟩
          have h1 := HB0.out
          rw [← HBE.out] at h1
          exact h1.trans (HT.out.bel.mono h1.size))
        clear hfull
        go_wp2
        go_ret2
        exact HNO.out
end Bk
end Go.Proofs.Ytnlbomijnldlmaa
