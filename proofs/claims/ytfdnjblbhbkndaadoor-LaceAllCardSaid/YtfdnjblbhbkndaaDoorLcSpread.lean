/- lace.Spread: its contract. -/
import Derived.Test.YtfdnjblbhbkndaaDoorLcRefSp
import Derived.Test.YtfdnjblbhbkndaaDoorLcPassIt
import Derived.Test.YtfdnjblbhbkndaaDoorWalkIn
import Derived.Test.YtfdnjblbhbkndaaDoorLcSq
namespace Go.Proofs.YtfdnjblbhbkndaaDoor
open Go.RowKit Go.Shelf
attribute [local go_sem] Oper.semAt_some

namespace Lc
section
variable {F : Fence} {k : Nat} {P : Program} {w : World} {ops : Array Oper} {rest : List Oper} {o : Oper} {a : Act} {Q : Exit → Act → World → Prop} {t e : TypeId} {z : Value} {size by' : Nat}
theorem wplIn_make0 (R : RowTy P t e z size by') (hg : o.guard = none) (l c : Operand) (hop : o.op = Op.makeSlice t l c) (base : Nat) (kl kc : IntKind) (C : Int) (m : Nat) (hl : a.eval l = .int kl 0) (hc : a.eval c = .int kc C) (hC : C = (m : Int))
    (b2 : by' * m ≤ 281474976710656) (b3 : m ≤ 9223372036854775807) (b4 : base ≤ w.heap.size)
    (hK : ∀ w', w'.ownsRow base e size (.slice (some ⟨w.heap.size, 0, none⟩) 0 m) 0 [] → w.grownBy w' none → wpListIn F k P ops Q rest (a.put o.dst (.slice (some ⟨w.heap.size, 0, none⟩) 0 m)) w') : wpListIn F k P ops Q (o :: rest) a w := by
  obtain ⟨i0, hi, hz0, hz1, hz2⟩ := info_parts R.info
  subst hz2
  exact wpListIn_make_own w hg l c t hop base e i0 z size R.ht hi hz0 hz1 kl kc C m hl hc hC b2 (by unfold maxLen; omega) b4 hK
theorem wplIn_fits (R : RowTy P t e z size by') (hg : o.guard = none) (s x : Operand) (hop : o.op = Op.call { callee := Callee.builtin Builtin.append, args := #[s, x], argTypes := #[t, t] })
    {base g n cap : Nat} {xs : List Value} (hown : w.ownsRow base e size (.slice (some ⟨g, 0, none⟩) n cap) n xs) {ad : Addr} {m c : Nat} {news : List Value} (hsrc : SrcRow w (some ad) m c news size)
    (hs : a.eval s = .slice (some ⟨g, 0, none⟩) n cap) (hx : a.eval x = .slice (some ad) m c) (b1 : n + m ≤ cap)
    (hK : ∀ w', w'.ownsRow base e size (.slice (some ⟨g, 0, none⟩) (n + m) cap) (n + m) (xs ++ news) → w.grownBy w' (some g) → wpListIn F k P ops Q rest (a.put o.dst (.slice (some ⟨g, 0, none⟩) (n + m) cap)) w') : wpListIn F k P ops Q (o :: rest) a w := by
  obtain ⟨i0, hi, hz0, hz1, hz2⟩ := info_parts R.info
  exact wpListIn_append_fits w hg s x t hop base e i0 size R.ht hi hz1 g n cap xs hs hown ad m c news hx hsrc.hl (hsrc.hc ad rfl) hsrc.h1 b1 hK
end
def SpPost (w : World) (L : List Int) (u : Value) (e : Ending) (w' : World) : Prop := ∃ v, e = .returned (.tuple #[v, u]) ∧ w'.ownsRow w.heap.size 3 1 v L.length (ivs L) ∧ Below w.heap.size w w'
set_option maxRecDepth 100000 in
set_option maxHeartbeats 4000000 in
theorem spread_bad (a b l : Int) (w : World) (ha : (Lit.int .i64 a).wf = true) (hb : (Lit.int .i64 b).wf = true) (hg : ¬ goodS a b l) : Calls Tryd.prog 7 #[.int .i64 a, .int .i64 b, .int .i64 l] w (SpPost w [] (.iface 35 (.int .i64 6))) := by
  have HLC := Lib.hid (fun n w => goodLace_any n w)
  have HB0 := Lib.hid (below_alloc w (.cells #[.int .i64 a] 3))
  have cA := Boxed.cell (World.alloc_heap_new w (.cells #[.int .i64 a] 3))
  obtain ⟨mn, hmn⟩ : ∃ mn, (if b < a then b else a) = mn := ⟨_, rfl⟩
  obtain ⟨mx, hmx⟩ : ∃ mx, (if a < b then b else a) = mx := ⟨_, rfl⟩
  by_cases h1 : mn < 1
  · have d1 : decide (mn < 1) = true := by simpa using h1
    clear hg h1
    go_enter Tryd.func7, Tryd.ntmps7
    go_wp2
    go_ret2
    exact ⟨_, rfl, World.ownsRow_nil _ _ _ _, HB0.out⟩
  have t1 : decide (a < 1) = false := by
    simp; rw [← hmn] at h1; split at h1 <;> omega
  have t2 : decide (b < 1) = false := by
    simp; rw [← hmn] at h1; split at h1 <;> omega
  have p1 : 1 ≤ a ∧ 1 ≤ b := by
    rw [← hmn] at h1; split at h1 <;> omega
  have ho : (a < b ∧ ¬ b < a) ∨ (¬ a < b ∧ b < a) ∨ (¬ a < b ∧ ¬ b < a) := by omega
  by_cases h2 : 262144 < mx
  · rw [← hmx] at h2
    clear hmn hmx h1 hg
    rcases ho with ⟨o1, o2⟩ | ⟨o1, o2⟩ | ⟨o1, o2⟩
    · rw [if_pos o1] at h2
      have d2 : decide ((262144 : Int) < b) = true := by simpa using h2
      clear h2
      go_enter Tryd.func7, Tryd.ntmps7
      go_wp2_with (go_at_call 14; refine (HLC.out _ _).mono ?_; rintro e w' ⟨rfl, rfl⟩)
      go_ret2
      exact ⟨_, rfl, World.ownsRow_nil _ _ _ _, HB0.out⟩
    all_goals
      rw [if_neg o1] at h2
      have d2 : decide ((262144 : Int) < a) = true := by simpa using h2
      clear h2
      go_enter Tryd.func7, Tryd.ntmps7
      go_wp2_with (go_at_call 14; refine (HLC.out _ _).mono ?_; rintro e w' ⟨rfl, rfl⟩)
      go_ret2
      exact ⟨_, rfl, World.ownsRow_nil _ _ _ _, HB0.out⟩
  have p2 : a ≤ 262144 ∧ b ≤ 262144 := by
    rw [← hmx] at h2; split at h2 <;> omega
  clear hmn hmx h1 h2
  obtain ⟨m, rfl⟩ : ∃ m : Nat, a = (m : Int) := ⟨a.toNat, by omega⟩
  obtain ⟨n, rfl⟩ : ∃ n : Nat, b = (n : Int) := ⟨b.toNat, by omega⟩
  have hpr := prod_small (a := m) (b := n) (by omega) (by omega)
  have hgp : ¬ ((m * n : Nat) ≤ 262144 ∧ (l = 0 ∨ l = 1)) := fun h => hg ⟨by omega, by omega, by omega, by omega, by rw [← Int.natCast_mul]; omega, h.2⟩
  obtain ⟨q, hq⟩ : ∃ q, m * n = q := ⟨_, rfl⟩
  rw [hq] at hgp hpr
  have t3 : decide ((262144 : Int) < (m : Int)) = false := by simp; omega
  have t4 : decide ((262144 : Int) < (n : Int)) = false := by simp; omega
  have ho : (m < n ∧ ¬ n < m) ∨ (¬ m < n ∧ n < m) ∨ (¬ m < n ∧ ¬ n < m) := by omega
  have hqd : decide ((262144 : Int) < (q : Int)) = true ∨ (decide ((262144 : Int) < (q : Int)) = false ∧ lace l = false) := by
    unfold lace
    simp
    by_cases h : 262144 < q
    · exact .inl (by omega)
    · right
      refine ⟨by omega, ?_, ?_⟩
      · intro h0; exact hgp ⟨by omega, .inl h0⟩
      · intro h0; exact hgp ⟨by omega, .inr h0⟩
  have e1 := w_mul hq (by omega)
  clear hg hgp p1 p2 hq hpr
  rcases hqd with d5 | ⟨d5, d6⟩ <;> rcases ho with ⟨o1, o2⟩ | ⟨o1, o2⟩ | ⟨o1, o2⟩
  all_goals
    go_enter Tryd.func7, Tryd.ntmps7
    go_wp2_with (go_at_call 14; refine (HLC.out _ _).mono ?_; rintro e w' ⟨rfl, rfl⟩)
    go_ret2
    exact ⟨_, rfl, World.ownsRow_nil _ _ _ _, HB0.out⟩
set_option maxRecDepth 100000 in
set_option maxHeartbeats 4000000 in
theorem spread_good (m n : Nat) (l : Int) (w : World) (hlp : Lp w) (hg : goodS m n l) : Calls Tryd.prog 7 #[.int .i64 (m : Nat), .int .i64 (n : Nat), .int .i64 l] w (SpPost w (il (all (parts m n l) m)) .nilIface) := by
  have hro : (Fence.wide).round = none := rfl
  obtain ⟨g1, g2, g3, g4, g5, g6⟩ := hg
  rw [← Int.natCast_mul] at g5
  obtain ⟨q, hq⟩ : ∃ q, m * n = q := ⟨_, rfl⟩
  have e1 := w_mul hq (by omega)
  rw [hq] at g5
  have HLN := Lib.hid ((all_len m n l).trans hq)
  have hq1 : 0 < q := by rw [← hq]; exact Nat.mul_pos (by omega) (by omega)
  have hq2 : q ≤ 262144 := by omega
  obtain ⟨mn, hmn⟩ : ∃ mn : Int, (if n < m then (n : Int) else (m : Int)) = mn := ⟨_, rfl⟩
  obtain ⟨mx, hmx⟩ : ∃ mx : Int, (if m < n then (n : Int) else (m : Int)) = mx := ⟨_, rfl⟩
  have d1 : decide (mn < 1) = false := by simp; rw [← hmn]; split <;> omega
  have d2 : decide ((262144 : Int) < mx) = false := by simp; rw [← hmx]; split <;> omega
  have d5 : decide ((262144 : Int) < (q : Int)) = false := by simp; omega
  have sl : lace l = true := by unfold lace; rcases g6 with rfl | rfl <;> rfl
  have HLC := Lib.hid (fun n w => goodLace_any n w)
  have HPI := Lib.hid (fun X Y Z U w a b c d u1 u2 u3 => parts_iter 3 (by omega) X Y Z m n l U w a b c d (by omega) (by omega) (by omega) (by omega) u1 u2 u3)
  have hb0 := below_alloc w (.cells #[.int .i64 (m : Nat)] 3)
  have hbx := World.alloc_heap_new w (.cells #[.int .i64 (m : Nat)] 3)
  have HLP := Lib.hid (hlp.below hb0)
  have HMN : Hid (m ≤ 262144 ∧ n ≤ 262144 ∧ 1 ≤ m) := Lib.hid ⟨by omega, by omega, by omega⟩
  clear g1 g2 g3 g4 g5 g6 hlp hq
  refine (callsIn_wide (n := 4)).1 ?_
  refine callsIn_of_wp_marks Tryd.func7 rfl trivial ?_ hro
  simp only [Tryd.ntmps7, List.size_toArray, List.length_cons, List.length_nil, Nat.reduceAdd, Nat.reduceSub, Array.replicate_succ, Array.replicate_zero, List.push_toArray, List.append_toArray, List.nil_append, List.cons_append]
  have hbx2 : Boxed (w.alloc (.cells #[.int .i64 (m : Nat)] 3)) w.heap.size 3 (.int .i64 (m : Nat)) := hbx
  have cA := hbx2.cell
  clear hbx
  gi_wp2_with fail
  refine ⟨trivial, (callsIn_wide.2 (HLC.out _ _)).mono ?_⟩
  rintro e w' ⟨rfl, rfl⟩
  have k1 : 8 * q ≤ 281474976710656 := by omega
  have k2 : q ≤ 9223372036854775807 := by omega
  have k3 : w.heap.size ≤ (w.alloc (.cells #[.int .i64 (m : Nat)] 3)).heap.size := hb0.size
  gi_wp2_with (refine wplIn_make0 tyI rfl _ _ rfl w.heap.size .i64 .i64 _ q rfl rfl e1 k1 k2 k3 ?_)
  intro w2 own2 hg2
  have hz2 : (w.alloc (.cells #[.int .i64 (m : Nat)] 3)).heap.size = w.heap.size + 1 := by simp
  have hlt2 := own2.lt (w.heap.size + 1) rfl
  have hb2 : Below (w.heap.size + 1) (w.alloc (.cells #[.int .i64 (m : Nat)] 3)) w2 := (Below.refl _ _).grown hg2 (by omega) (fun k e => by cases e)
  have hbw2 := below_then hb0 (hb2.mono (by omega))
  have hm2 : Boxed w2 w.heap.size 3 (.int .i64 (m : Nat)) := (hb2.block _ (by omega)).trans hbx2
  have HLP2 := Lib.hid (HLP.out.below (hb2.mono (by omega)))
  have h3b := below_alloc w2 (.cells #[.slice (some ⟨w.heap.size + 1, 0, none⟩) 0 q] 26)
  have h3x : Boxed (w2.alloc (.cells #[.slice (some ⟨w.heap.size + 1, 0, none⟩) 0 q] 26)) w2.heap.size 26 (.slice (some ⟨w.heap.size + 1, 0, none⟩) 0 q) := World.alloc_heap_new w2 _
  have hm3 : Boxed (w2.alloc (.cells #[.slice (some ⟨w.heap.size + 1, 0, none⟩) 0 q] 26)) w.heap.size 3 (.int .i64 (m : Nat)) := (h3b.block _ hm2.lt).trans hm2
  have own3 := own_below own2 h3b
  have hlp3 := HLP2.out.below h3b
  have hb3 := below_then hbw2 h3b
  have c3 := hm3.cell
  have hz3 : (w2.alloc (.cells #[.slice (some ⟨w.heap.size + 1, 0, none⟩) 0 q] 26)).heap.size = w2.heap.size + 1 := by simp
  clear hb0 hbx2 cA own2 hg2 hb2 hbw2 hm2 h3b e1 d1 d2 d5 sl HLC hmn hmx k1 k2 k3 HLP HLP2
  gi_wp2_with fail
  revert h3x hm3 own3 hlp3 hb3 c3 hz3
  generalize w2.alloc (.cells #[.slice (some ⟨w.heap.size + 1, 0, none⟩) 0 q] 26) = w3
  intro h3x hm3 own3 hlp3 hb3 c3 hz3
  have h5 := three_boxes w3 m n l
  refine ⟨trivial, (parts_in Fence.wide 3 trivial rfl m n l _).mono ?_⟩
  rintro e w' ⟨rfl, rfl⟩
  obtain ⟨hb5, b1, b2, b3, hz5⟩ := h5
  revert hb5 b1 b2 b3 hz5
  generalize ((w3.alloc (.cells #[.int .i64 (m : Nat)] 3)).alloc (.cells #[.int .i64 (n : Nat)] 3)).alloc (.cells #[.int .i64 l] 3) = W5
  intro hb5 b1 b2 b3 hz5
  have hm5 : Boxed W5 w.heap.size 3 (.int .i64 (m : Nat)) := (hb5.block _ hm3.lt).trans hm3
  have h5x : Boxed W5 w2.heap.size 26 (.slice (some ⟨w.heap.size + 1, 0, none⟩) 0 q) := (hb5.block _ h3x.lt).trans h3x
  have own5 := own_below own3 hb5
  have hlp5 := hlp3.below hb5
  have hbw5 := below_then hb3 hb5
  obtain ⟨G, hG⟩ : ∃ G, w.heap.size + 1 = G := ⟨_, rfl⟩
  obtain ⟨B, hB⟩ : ∃ B, w2.heap.size = B := ⟨_, rfl⟩
  obtain ⟨X, hX⟩ : ∃ X, w3.heap.size = X := ⟨_, rfl⟩
  have HZ : Hid (w.heap.size < G ∧ G < B ∧ B < X ∧ X + 3 ≤ W5.heap.size) := Lib.hid (by omega)
  rw [hG] at own5 h5x ⊢
  rw [hB] at h5x ⊢
  rw [hX] at b1 b2 b3 ⊢
  have hit := HPI.out (X + 2) X (X + 1) (fun k => k = B ∨ k = G) W5 b3 b1 b2 hlp5 (by omega) (by omega) (by omega)
  clear hb5 b1 b2 b3 hz5 hm3 h3x own3 hlp3 hlp5 hb3 c3 hz3 hG hB hX HPI hlt2
  gi_wp2_with fail
  have HVW := Lib.hid hbw5.size
  refine range_iterA (F := Fence.wide) (n := 4) (P := Tryd.prog) (gf := 22) (lb := #[.pointer (some ⟨X + 2, 0, none⟩), .pointer (some ⟨X, 0, none⟩), .pointer (some ⟨X + 1, 0, none⟩)]) hro (by omega) rfl trivial (enters_of Tryd.func22 (by kernel_rfl) rfl)
    (encs := pEnc) (hseq := hit) (fun h1 h2 => h1.trans h2) (fun W l o o' hl hc => Bk.Kc.put W l o o' hl hc) (fun _ => rfl)
    (fun pre W => Boxed W w.heap.size 3 (.int .i64 (m : Nat)) ∧ Boxed W B 26 (.slice (some ⟨G, 0, none⟩) (all pre m).length q) ∧ W.ownsRow w.heap.size 3 1 (.slice (some ⟨G, 0, none⟩) (all pre m).length q) (all pre m).length (ivs (il (all pre m))) ∧ Below w.heap.size w W ∧ W5.heap.size ≤ W.heap.size)
    (fun _ _ _ => False) ?hI ?hX ⟨hm5, h5x, own5, hbw5, Nat.le_refl _⟩ (fun x => .cells x.2.cells 54 (0, 0)) (fun _ => rfl) (fun _ _ => Bk.Kc.alloc _ _ _)
    (fun x Bx => { tmps := #[.int .i64 (m : Nat), .int .i64 (n : Nat), .int .i64 l, .pointer (some ⟨w.heap.size, 0, none⟩), undef, undef, .slice none 0 0, .nilIface, .pointer (some ⟨B, 0, none⟩), undef, .pointer (some ⟨Bx, 0, none⟩), undef, undef, undef, undef, .int .i64 (m : Nat), .int .i64 (n : Nat), .int .i64 mn, .bool false, .bool false, .int .i64 (m : Nat), .int .i64 (n : Nat), .int .i64 mx, .bool false, .bool false, .bool false, .int .i64 (m : Nat), .int .i64 (n : Nat), .int .i64 (q : Nat), .bool false, .bool false, .bool false, .int .i64 l, .bool true, .bool false, .bool false, undef, .int .i64 (m : Nat), .int .i64 (n : Nat), .int .i64 (q : Nat), .slice (some ⟨G, 0, none⟩) 0 q, .int .i64 (m : Nat), .int .i64 (n : Nat), .int .i64 l, .func (.func 22) #[] #[.pointer (some ⟨X + 2, 0, none⟩), .pointer (some ⟨X, 0, none⟩), .pointer (some ⟨X + 1, 0, none⟩)], .int .i64 (x.1 : Nat), x.2.val, undef, undef, undef, undef, undef, undef, undef, undef, undef, undef, undef, undef, undef, undef, undef, undef, undef, undef, undef, undef, undef, undef, undef, undef, undef, undef, undef, undef, undef], defers := [] })
    ?has ?hbo ?hend ?hout
  case hI =>
    rintro s X' Y row ⟨h1, h2, h3, h4, h5⟩ hg hr
    have hv := HVW.out
    have hk := Bk.kc_cells hg (fun r e => (hr r e).2)
    exact ⟨hk _ _ h1 rfl (fun h => h), hk _ _ h2 rfl (fun h => h), Bk.own_kc h3 hk (fun _ _ h => h), h4.grown hg (by omega) (fun r e => by have := (hr r e).1; omega), Nat.le_trans h5 hg.size⟩
  case hX => exact fun _ _ _ _ _ h => h.elim
  case has =>
    rintro k ⟨p, z0, z1, z2, z3, z4, z5⟩ X' K hK
    simp only [pEnc, Pa.val]
    gi_wp2
    exact hK
  case hbo =>
    rintro k pre ⟨p, z0, z1, z2, z3, z4, z5⟩ A Bx ⟨h1, h2, h3, h4, h5⟩ hnx hBx hbx
    obtain ⟨s, hs⟩ := hnx
    obtain ⟨y1, y2, y3, y4⟩ := HZ.out
    obtain ⟨t1, t2, t3⟩ := HMN.out
    have hin : (p, (⟨z0, z1, z2, z3, z4, z5⟩ : Pa)) ∈ parts m n l := by rw [hs]; simp
    obtain ⟨s1, s2, s3, s4⟩ := parts_small m n l _ hin
    obtain ⟨s5, s6⟩ := parts_mem m n l _ hin
    have HIN := Lib.hid (fun (r c : Nat) (hr : r < z5) (hc : c < z4) => (show (curS m pre ⟨z0, z1, z2, z3, z4, z5⟩ r c).length + 1 ≤ q from by
      obtain ⟨t, ht⟩ := curS_in m n p l pre s ⟨z0, z1, z2, z3, z4, z5⟩ r c hs hr hc
      have hl := HLN.out
      rw [ht, List.length_append, curS_c, List.length_append] at hl
      simp at hl
      omega))
    have HPL := Lib.hid (fun (r c : Nat) (hr : r < z5) (hc : c < z4) w => place_any z0 z1 z2 z3 c r s1 s2 s3 s4 (by simp only at s5 s6; omega) (by simp only at s5 s6; omega) w)
    have HWZ : Hid (∀ (r c : Nat), r < z5 → c < z4 → (wrap64 (wrap64 (((z2 + r * z3 : Nat) : Int) * (m : Int)) + ((z0 + c * z1 : Nat) : Int))) = (((z2 + r * z3) * m + (z0 + c * z1) : Nat) : Int)) := Lib.hid (fun r c hr hc => by
      simp only at s1 s2 s3 s4 s5 s6
      have a1 : r * z3 ≤ 262144 * 8 := Nat.mul_le_mul (by omega) s4
      have a2 : c * z1 ≤ 262144 * 8 := Nat.mul_le_mul (by omega) s2
      have a3 : (z2 + r * z3) * m ≤ 2097160 * 262144 := Nat.mul_le_mul (by omega) t1
      rw [w_mul (c := (z2 + r * z3) * m) rfl (by omega)]
      exact w_add rfl (by omega))
    have HSQ : Hid (Sq w A A m q G B Bx W5.heap.size ⟨z0, z1, z2, z3, z4, z5⟩ (curS m pre ⟨z0, z1, z2, z3, z4, z5⟩ 0 0)) := Lib.hid (by
      rw [curS_0]
      exact ⟨h1, hbx, h2, h3, h4, KeepsFrom.refl _ _, Bk.Kc.refl _ _⟩)
    have HEN : Hid (∀ W, Sq w A W m q G B Bx W5.heap.size ⟨z0, z1, z2, z3, z4, z5⟩ (curS m pre ⟨z0, z1, z2, z3, z4, z5⟩ z5 0) → KeepsFrom W5.heap.size A W ∧ Bk.Kc (fun k => k = B ∨ k = G) A W ∧
        (Boxed W w.heap.size 3 (.int .i64 (m : Nat)) ∧ Boxed W B 26 (.slice (some ⟨G, 0, none⟩) (all (pre ++ [(p, ⟨z0, z1, z2, z3, z4, z5⟩)]) m).length q) ∧ W.ownsRow w.heap.size 3 1 (.slice (some ⟨G, 0, none⟩) (all (pre ++ [(p, ⟨z0, z1, z2, z3, z4, z5⟩)]) m).length q) (all (pre ++ [(p, ⟨z0, z1, z2, z3, z4, z5⟩)]) m).length (ivs (il (all (pre ++ [(p, ⟨z0, z1, z2, z3, z4, z5⟩)]) m))) ∧ Below w.heap.size w W ∧ W5.heap.size ≤ W.heap.size)) := Lib.hid (fun W hq => by
      rw [show curS m pre ⟨z0, z1, z2, z3, z4, z5⟩ z5 0 = all (pre ++ [(p, ⟨z0, z1, z2, z3, z4, z5⟩)]) m from curS_end m p pre ⟨z0, z1, z2, z3, z4, z5⟩] at hq
      exact ⟨hq.kf, hq.kc, hq.bm, hq.box, hq.row, hq.bel, Nat.le_trans h5 hq.kf.size⟩)
    have HNE : Hid (G ≠ w.heap.size ∧ G ≠ B ∧ Bx ≠ G ∧ Bx ≠ B ∧ w.heap.size ≠ B ∧ G < W5.heap.size ∧ B < W5.heap.size ∧ w.heap.size ≤ G ∧ w.heap.size ≤ B) := Lib.hid (by omega)
    have bz4 : z4 ≤ 262144 := by simp only at s5; omega
    have bz5 : z5 ≤ 262144 := by simp only at s6; omega
    clear h1 h2 h3 h4 h5 hbx hs hin s1 s2 s3 s4 s5 s6 t1 t2 t3 y1 y2 y3 y4 hit hm5 h5x own5 hbw5 hBx
    have cr : A.cell? ⟨Bx, 5, none⟩ = some (.int .i64 (z5 : Nat)) := by rw [cell_of_row _ _ _ _ _ (0, 0) HSQ.out.part]; rfl
    simp only [Pa.val]
    gi_wp2
    clear cr
    gi_loopw [49] (fun i wr => ∃ r : Nat, r ≤ z5 ∧ i = .int .i64 (r : Nat) ∧ Hid (Sq w A wr m q G B Bx W5.heap.size ⟨z0, z1, z2, z3, z4, z5⟩ (curS m pre ⟨z0, z1, z2, z3, z4, z5⟩ r 0))) (fun i _ => z5 - (intOf i).toNat)
    case atStart => exact ⟨0, by omega, rfl, HSQ⟩
    case round =>
      clear HSQ
      obtain ⟨r, hr, rfl, HSQ⟩ := hrel
      by_cases hr5 : r < z5
      · have cc : wr.cell? ⟨Bx, 4, none⟩ = some (.int .i64 (z4 : Nat)) := by rw [cell_of_row _ _ _ _ _ (0, 0) HSQ.out.part]; rfl
        have dr : decide (r < z5) = true := by simpa using hr5
        gi_wp2
        clear cc
        gi_loopw [54] (fun i wr => ∃ c : Nat, c ≤ z4 ∧ i = .int .i64 (c : Nat) ∧ Hid (Sq w A wr m q G B Bx W5.heap.size ⟨z0, z1, z2, z3, z4, z5⟩ (curS m pre ⟨z0, z1, z2, z3, z4, z5⟩ r c))) (fun i _ => z4 - (intOf i).toNat)
        case atStart => exact ⟨0, by omega, rfl, HSQ⟩
        case round =>
          clear HSQ
          obtain ⟨c, hc, rfl, HSQ⟩ := hrel
          by_cases hc4 : c < z4
          · have dc : decide (c < z4) = true := by simpa using hc4
            have hlen := HIN.out r c hr5 hc4
            have HPW := Lib.hid (HPL.out r c hr5 hc4)
            have HZV := Lib.hid (HWZ.out r c hr5 hc4)
            have HCS := Lib.hid (curS_c m pre ⟨z0, z1, z2, z3, z4, z5⟩ r c)
            have c0 : wr.cell? ⟨Bx, 0, none⟩ = some (.int .i64 (z0 : Nat)) := by rw [cell_of_row _ _ _ _ _ (0, 0) HSQ.out.part]; rfl
            have c1 : wr.cell? ⟨Bx, 1, none⟩ = some (.int .i64 (z1 : Nat)) := by rw [cell_of_row _ _ _ _ _ (0, 0) HSQ.out.part]; rfl
            have c2 : wr.cell? ⟨Bx, 2, none⟩ = some (.int .i64 (z2 : Nat)) := by rw [cell_of_row _ _ _ _ _ (0, 0) HSQ.out.part]; rfl
            have c3 : wr.cell? ⟨Bx, 3, none⟩ = some (.int .i64 (z3 : Nat)) := by rw [cell_of_row _ _ _ _ _ (0, 0) HSQ.out.part]; rfl
            unfold pval pcells at HPW
            simp only at HCS HZV
            generalize curS m pre ⟨z0, z1, z2, z3, z4, z5⟩ r c = L at *
            generalize z2 + r * z3 = V at *
            generalize z0 + c * z1 = U at *
            gi_wp2_with fail
            refine ⟨trivial, (CallsIn.inRound k (callsIn_wide.2 (HPW.out _))).mono ?_⟩
            rintro e w4 ⟨rfl, hb4⟩
            have HS4 := Lib.hid (HSQ.out.below hb4)
            clear hb4 HSQ HPW c0 c1 c2 c3
            have hba := below_alloc w4 (.cells #[.int .i64 (wrap64 (wrap64 ((V : Int) * (m : Int)) + (U : Int)))] 3)
            have HS5 := Lib.hid (HS4.out.below hba)
            have cm := HS4.out.bm.cell
            have cb := HS4.out.box.cell
            clear hba
            gi_wp2_with (gi_at_builtin; refine wplIn_fits tyI rfl _ _ rfl HS5.out.row (src_int w4 (wrap64 (wrap64 ((V : Int) * (m : Int)) + (U : Int)))) rfl rfl hlen ?_)
            intro w6 own6 hg6
            have hbl : Boxed w6 B 26 (.slice (some ⟨G, 0, none⟩) L.length q) := (hg6.block B HS5.out.box.lt (fun e => HNE.out.2.1 (by cases e; rfl))).trans HS5.out.box
            have cb6 := hbl.cell
            have fb6 := hbl.frozen
            rw [HZV.out] at own6
            have HS7 := Lib.hid (HS5.out.push (V * m + U) own6 hg6 HNE.out.1 HNE.out.2.1 HNE.out.2.2.1 HNE.out.2.2.2.1 HNE.out.2.2.2.2.1 HNE.out.2.2.2.2.2.1 HNE.out.2.2.2.2.2.2.1 HNE.out.2.2.2.2.2.2.2.1 HNE.out.2.2.2.2.2.2.2.2)
            rw [← HCS.out] at HS7
            clear own6 hg6 hbl HS4 HS5 cm cb HCS HZV
            gi_wp2_with fail
            go_roundw
            case rel => exact ⟨c + 1, by omega, by go_num, HS7⟩
            case measure => simp [intOf]; omega
          · obtain rfl : c = z4 := by omega
            have HS7 : Hid (Sq w A _ m q G B Bx W5.heap.size ⟨z0, z1, z2, z3, c, z5⟩ (curS m pre ⟨z0, z1, z2, z3, c, z5⟩ (r + 1) 0)) := Lib.hid (by rw [← curS_r]; exact HSQ.out)
            clear HSQ hc4
            gi_wp2
            go_roundw
            case rel => exact ⟨r + 1, by omega, by go_num, HS7⟩
            case measure => simp [intOf]; omega
      · obtain rfl : r = z5 := by omega
        have HE := Lib.hid (HEN.out _ HSQ.out)
        clear HSQ HEN hr5
        gi_wp2
        exact HE.out
  case hend =>
    rintro xs X' rfl ⟨h1, h2, h3, h4, h5⟩ hK
    have hv := HVW.out
    have cb := h2.cell
    have HP : Hid (Below w.heap.size w (X'.putObj W5.heap.size (.deferred none)) ∧ (X'.putObj W5.heap.size (.deferred none)).ownsRow w.heap.size 3 1 (.slice (some ⟨G, 0, none⟩) (all (parts m n l) m).length q) (all (parts m n l) m).length (ivs (il (all (parts m n l) m)))) := Lib.hid
      ⟨h4.grown (grownBy_putObj' X' W5.heap.size (.deferred none)) h4.size (fun k e => by cases e; omega), Bk.own_same h3 (fun g hg => World.putObj_heap_other (fun e => by simp [Value.ownBlock] at hg; have := HZ.out; omega))⟩
    clear h1 h2 h3 h4 h5 hit hm5 h5x own5 hbw5
    gi_wp2_with fail
    refine ⟨by simp, .inl ⟨_, _, rfl, run_takeDeferred hK, ?_⟩⟩
    refine ⟨_, results_tmp2 rfl _ _ _, _, rfl, ?_, HP.out.1⟩
    rw [il_length]
    exact HP.out.2
  case hout => exact fun _ _ _ _ h => h.elim
end Lc
end Go.Proofs.YtfdnjblbhbkndaaDoor
