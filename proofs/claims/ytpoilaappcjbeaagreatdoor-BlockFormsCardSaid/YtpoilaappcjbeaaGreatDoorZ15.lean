/- (*Book).Write: its contract. block's tables in memory; newTable, extra: their contracts. block's tables: bits, price: their contracts. -/
import Derived.Test.YtpoilaappcjbeaaGreatDoorZ14
import Derived.Laws.ResultCell
import Derived.Laws.EntriesVeiled
import Derived.Deep.RegionHeld3
import Derived.Deep.QuietTactic
import Derived.BigQuiet
set_option linter.unusedSimpArgs false
set_option linter.unusedVariables false
section
namespace Go.Proofs.YtpoilaappcjbeaaGreatDoor
open Go.RowKit

namespace Bk
theorem dg_rev (c n : Nat) : Bt.dg false c n = (Bt.dg true c n).reverse := by
  apply List.ext_getElem
  · simp [Bt.dg_length]
  · intro i h1 h2
    rw [Bt.dg_length] at h1
    simp only [List.getElem_reverse, Bt.dg, List.getElem_map, List.getElem_range, List.length_map, List.length_range, if_true, Bool.false_eq_true, if_false]
    congr 1; omega
/-- A code's number, its bits turned round. -/
def back (c n : Nat) : Nat := Bt.numH (Bt.dg false c n)
theorem back_dg (c n : Nat) : Bt.dg false (back c n) n = Bt.dg true c n := by
  unfold back
  have h1 : (Bt.dg false c n).length = n := Bt.dg_length _ _ _
  rw [dg_rev, dg_of_num _ _ h1, dg_rev, List.reverse_reverse]
theorem back_lt (c n : Nat) : back c n < 2 ^ n := by
  have := Bt.num_lt true (Bt.dg false c n)
  rw [Bt.dg_length] at this
  exact this
theorem back_step (c i n : Nat) (h : i < n) : Bt.numH ((Bt.dg false c n).take (i + 1)) = 2 * Bt.numH ((Bt.dg false c n).take i) + (c.testBit i).toNat := by
  have hl : i < (Bt.dg false c n).length := by rw [Bt.dg_length]; exact h
  rw [List.take_succ_eq_append_getElem hl, Bt.numH_snoc]
  congr 2
  simp [Bt.dg]
theorem bit_and (c i : Nat) (hc : c < 4294967296) : bits .and .i64 ((c : Int) / 2 ^ i) 1 = ((c.testBit i).toNat : Nat) := by
  have e : (c : Int) / 2 ^ i = ((c / 2 ^ i : Nat) : Int) := by rw [Bt.pow_cast]; exact (Int.natCast_ediv c (2 ^ i)).symm
  have h1 : c / 2 ^ i ≤ c := Nat.div_le_self _ _
  rw [e, show (1 : Int) = ((1 : Nat) : Int) from rfl, i64_and_nat _ _ (by omega) (by omega)]
  congr 1
  rw [Nat.and_one_is_mod, Nat.testBit_eq_decide_div_mod_eq]
  by_cases h : c / 2 ^ i % 2 = 1
  · simp [h]
  · have : c / 2 ^ i % 2 = 0 := by omega
    simp [this]
theorem or_bit (a : Nat) (b : Bool) (ha : a < 4294967296) : bits .or .i64 ((a : Int) * 2) ((b.toNat : Nat) : Int) = ((2 * a + b.toNat : Nat) : Int) := by
  have hb : b.toNat ≤ 1 := Bool.toNat_le b
  rw [show (a : Int) * 2 = ((a * 2 : Nat) : Int) by omega, i64_or_nat _ _ (by omega) (by omega)]
  congr 1
  have h1 := nat_join 1 (a * 2) b.toNat (by omega) (by omega)
  omega
set_option maxRecDepth 100000 in
theorem backward_any (c n : Nat) (w : World) (hc : c < 4294967296) (hn : n ≤ 16) :
    Calls Tryz.prog 109 #[.agg #[.int .i64 c, .int .i64 n]] w fun e w' => e = .returned (.int .i64 (back c n)) ∧ Below w.heap.size w w' := by
  go_enter Tryz.func109, Tryz.ntmps109
  go_wp2
  have c0 : (w.alloc (.cells #[.int .i64 c, .int .i64 n] 154)).cell? ⟨w.heap.size, 0, none⟩ = some (.int .i64 c) := by rw [cell_of_row _ _ _ _ _ (0, 0) (heap_alloc_last w _)]; rfl
  have HB := Lib.hid (below_alloc w (.cells #[.int .i64 c, .int .i64 n] 154))
  generalize w.alloc (.cells #[.int .i64 c, .int .i64 n] 154) = w1 at *
  generalize hq : w.heap.size = q at *
  have HQ := Lib.hid hq
  clear hq
  go_loop [3, 7] (fun o i => ∃ k : Nat, k ≤ n ∧ i = .int .i64 k ∧ o = .int .i64 (Bt.numH ((Bt.dg false c n).take k) : Nat)) (fun _ i => n - (intOf i).toNat)
  case atStart => exact ⟨0, by omega, rfl, by simp [Bt.numH]⟩
  case round =>
    obtain ⟨k, hk, rfl, rfl⟩ := hrel
    by_cases hlt : k < n
    · have hs := back_step c k n hlt
      have ha : Bt.numH ((Bt.dg false c n).take k) < 2 ^ k := by
        have := Bt.num_lt true ((Bt.dg false c n).take k)
        rw [List.length_take, Bt.dg_length, Nat.min_eq_left (by omega)] at this
        exact this
      have h16 := Bt.pow_le k 16 (by omega)
      simp only [Nat.reducePow] at h16
      have HS := Lib.hid hs
      clear hs
      generalize Bt.numH ((Bt.dg false c n).take k) = a at *
      have ha2 : a < 65536 := by omega
      clear ha h16
      have H1 := Lib.hid (bit_and c k hc)
      have H2 := Lib.hid (or_bit a (c.testBit k) (by omega))
      go_wp2
      go_round
      case rel => exact ⟨k + 1, by omega, by go_num, int_eq (by rw [HS.out, H1.out, H2.out])⟩
      case measure => simp [intOf]; omega
    · obtain rfl : n = k := by omega
      have hf : (Bt.dg false c n).take n = Bt.dg false c n := List.take_of_length_le (by rw [Bt.dg_length]; exact Nat.le_refl _)
      rw [hf]
      have HP := Lib.hid (show Bt.numH (Bt.dg false c n) = back c n from rfl)
      clear hf
      generalize Bt.numH (Bt.dg false c n) = a at *
      go_wp2
      go_ret
      exact ⟨by rw [HP.out]; rfl, by rw [HQ.out]; exact HB.out⟩
theorem putw_below {w w1 : World} {B g : Nat} {h : Bool} {v : Value} {l : List Bool} {e : Ending} {w' : World} (hb : Below w.heap.size w w1) (H : PutWPost w1 B g h v l e w') : PutWPost w B g h v l e w' := by
  obtain ⟨h1, v', h2, h3, h4⟩ := H
  exact ⟨h1, v', h2, (Ch.of_below (T := Wt g v) hb).trans h3 (fun _ h => .inl h), fun k hk => (h4 k hk).imp id (fun h => Nat.le_trans hb.size h)⟩
set_option maxRecDepth 100000 in
theorem write_no (w : World) (S g : Nat) (R : Nat → List Nat) (ws : List (Nat × Nat)) (h : Book w S g R ws) (hl : ws.length ≤ 1000000000) (s : Int) (p : Value) (hp : (wAt ws s).2 = 0 ∨ p = .pointer none) (hp2 : p = .pointer none ∨ ∃ gw, p = .pointer (some ⟨gw, 0, none⟩)) :
    Calls Tryz.prog 89 #[.pointer (some ⟨g, 0, none⟩), p, .int .i64 s] w fun e w' => e = .returned (.iface 51 (.int .i64 6)) ∧ Below w.heap.size w w' := by
  have HW := Lib.hid (word_any w S g R ws h hl s)
  clear h hl
  go_enter Tryz.func89, Tryz.ntmps89
  go_wp2_with fail
  refine HW.out.mono ?_
  rintro e w1 ⟨rfl, hb1⟩
  have HB := Lib.hid (hb1.alloc hb1.size (.cells #[.int .i64 ((wAt ws s).1 : Nat), .int .i64 ((wAt ws s).2 : Nat)] 154))
  clear hb1 HW
  generalize (wAt ws s).1 = c at *
  generalize (wAt ws s).2 = n at *
  by_cases hn : n = 0
  · subst hn
    rcases hp2 with rfl | ⟨gw, rfl⟩
    · go_wp2
      go_ret
      exact ⟨rfl, HB.out⟩
    · go_wp2
      go_ret
      exact ⟨rfl, HB.out⟩
  · have hp3 := hp.resolve_left hn
    subst hp3
    have dn : ((n : Int) == 0) = false := by simp; omega
    clear hp hp2
    go_wp2
    go_ret
    exact ⟨rfl, HB.out⟩
set_option maxRecDepth 100000 in
theorem write_nil (w : World) (s : Int) (p : Value) : Calls Tryz.prog 89 #[.pointer none, p, .int .i64 s] w fun e w' => e = .returned (.iface 51 (.int .i64 6)) ∧ Below w.heap.size w w' := by
  go_enter Tryz.func89, Tryz.ntmps89
  go_wp2_with fail
  refine (word_nil w s).mono ?_
  rintro e w1 ⟨rfl, hb1⟩
  have HB := Lib.hid (hb1.alloc hb1.size (.cells #[.int .i64 0, .int .i64 0] 154))
  clear hb1
  go_wp2
  go_ret
  exact ⟨rfl, HB.out⟩
set_option maxRecDepth 100000 in
set_option maxHeartbeats 2000000 in
theorem write_ok (w : World) (S g : Nat) (R : Nat → List Nat) (ws : List (Nat × Nat)) (h : Book w S g R ws) (hl : ws.length ≤ 1000000000) (s : Int) (c n : Nat) (hcn : wAt ws s = (c, n)) (hn : 0 < n) (hn2 : n ≤ 16) (hc : c < 2 ^ n)
    (B gw : Nat) (hi : Bool) (v : Value) (l : List Bool) (H : Wr w B gw hi v l) (hB : B ≤ w.heap.size) (hll : l.length ≤ 1000000000000) :
    Calls Tryz.prog 89 #[.pointer (some ⟨g, 0, none⟩), .pointer (some ⟨gw, 0, none⟩), .int .i64 s] w (PutWPost w B gw hi v (l ++ Bt.dg true c n)) := by
  have hw := word_any w S g R ws h hl s
  rw [hcn] at hw
  have HW := Lib.hid hw
  have HH := Lib.hid H
  have HC := Lib.hid hc
  have HLL := Lib.hid hll
  clear h hl hcn hw H hc hll
  go_enter Tryz.func89, Tryz.ntmps89
  go_wp2_with fail
  refine HW.out.mono ?_
  rintro e w1 ⟨rfl, hb1⟩
  simp only
  have HB := Lib.hid (hb1.alloc hb1.size (.cells #[.int .i64 (c : Nat), .int .i64 (n : Nat)] 154))
  have b0 : (w1.alloc (.cells #[.int .i64 (c : Nat), .int .i64 (n : Nat)] 154)).cell? ⟨w1.heap.size, 0, none⟩ = some (.int .i64 (c : Nat)) := by rw [cell_of_row _ _ _ _ _ (0, 0) (heap_alloc_last w1 _)]; rfl
  have b1 : (w1.alloc (.cells #[.int .i64 (c : Nat), .int .i64 (n : Nat)] 154)).cell? ⟨w1.heap.size, 1, none⟩ = some (.int .i64 (n : Nat)) := by rw [cell_of_row _ _ _ _ _ (0, 0) (heap_alloc_last w1 _)]; rfl
  have hq : w1.heap.size < (w1.alloc (.cells #[.int .i64 (c : Nat), .int .i64 (n : Nat)] 154)).heap.size := by simp
  have HH2 := Lib.hid (HH.out.mono HB.out)
  have HSZ := Lib.hid hb1.size
  clear HW hb1
  have dn : ((n : Int) == 0) = false := by simp; omega
  go_wp2_with fail
  have hB2 : B ≤ (w1.alloc (.cells #[.int .i64 (c : Nat), .int .i64 (n : Nat)] 154)).heap.size := by have := HB.out.size; omega
  have HNQ : Hid (¬ Wt gw v w1.heap.size) := Lib.hid (fun h => by
    have h1 := HSZ.out
    rcases h with h | h
    · have := HH.out.lt; omega
    · have := (HH.out.own.lt _ h).2; omega)
  revert HB b0 b1 hq HH2 hB2
  generalize w1.alloc (.cells #[.int .i64 (c : Nat), .int .i64 (n : Nat)] 154) = w2
  intro HB b0 b1 hq HH2 hB2
  generalize w1.heap.size = q at *
  refine (high_any _ B gw hi v l HH2.out).mono ?_
  rintro e w' ⟨rfl, rfl⟩
  cases hi
  · have HM := Lib.hid (backward_any c n w2.drew (by have h1 := HC.out; have h2 := Bt.pow_le n 16 hn2; simp only [Nat.reducePow] at h2; omega) hn2)
    have HD : Hid (Wr w2.drew B gw false v l) := Lib.hid (HH2.out.mono ⟨rfl, rfl, rfl, Nat.le_refl _, fun _ _ => rfl⟩)
    have HBD : Hid (Below w.heap.size w w2.drew) := Lib.hid HB.out.drew
    have e0 : w2.drew.cell? ⟨q, 0, none⟩ = some (.int .i64 (c : Nat)) := b0
    have e1 : w2.drew.cell? ⟨q, 1, none⟩ = some (.int .i64 (n : Nat)) := b1
    have hqd : q < w2.drew.heap.size := hq
    have hBd : B ≤ w2.drew.heap.size := hB2
    go_wp2
    refine wp_region_noPanic ?_
    refine region_J 6 (fun w' => w'.cell? ⟨q, 0, none⟩ = some (.int .i64 (c : Nat)) ∧ w'.cell? ⟨q, 1, none⟩ = some (.int .i64 (n : Nat))) (by kernel_rfl) ?_
    clear HB HH2 b0 b1 hq hB2
    revert HM HD HBD e0 e1 hqd hBd
    generalize w2.drew = w3
    intro HM HD HBD e0 e1 hqd hBd
    refine J_take (i := 0) (v := ?_) rfl (by kernel_rfl) (by kernel_rfl) (by kernel_rfl) (by kernel_rfl) (fun _ _ _ h => h) ⟨e0, e1⟩ (by rfl) ?_ ?_
    rotate_left
    · (intro w' hw'; obtain ⟨c0, c1⟩ := hw'; first | (go_simp; done) | (go_simp; with_reducible rfl))
    try simp only [Act.put, List.setIfInBounds_toArray, List.set_cons_zero, List.set_cons_succ]
    refine J_take (i := 1) (v := ?_) rfl (by kernel_rfl) (by kernel_rfl) (by kernel_rfl) (by kernel_rfl) (fun _ _ _ h => h) ⟨e0, e1⟩ (by rfl) ?_ ?_
    rotate_left
    · (intro w' hw'; obtain ⟨c0, c1⟩ := hw'; first | (go_simp; done) | (go_simp; with_reducible rfl))
    try simp only [Act.put, List.setIfInBounds_toArray, List.set_cons_zero, List.set_cons_succ]
    refine J_take (i := 3) (v := ?_) rfl (by kernel_rfl) (by kernel_rfl) (by kernel_rfl) (by kernel_rfl) (fun _ _ _ h => h) ⟨e0, e1⟩ (by rfl) ?_ ?_
    rotate_left
    · (intro w' hw'; obtain ⟨c0, c1⟩ := hw'; first | (go_simp; done) | (go_simp; with_reducible rfl))
    try simp only [Act.put, List.setIfInBounds_toArray, List.set_cons_zero, List.set_cons_succ]
    refine J_take (i := 4) (v := ?_) rfl (by kernel_rfl) (by kernel_rfl) (by kernel_rfl) (by kernel_rfl) (fun _ _ _ h => h) ⟨e0, e1⟩ (by rfl) ?_ ?_
    rotate_left
    · (intro w' hw'; obtain ⟨c0, c1⟩ := hw'; first | (go_simp; done) | (go_simp; with_reducible rfl))
    try simp only [Act.put, List.setIfInBounds_toArray, List.set_cons_zero, List.set_cons_succ]
    refine J_step (i := 2) (by kernel_rfl) rfl (fun K hK => ?_)
    go_simp
    go_at_call 109
    refine HM.out.mono ?_
    rintro e w4 ⟨rfl, hb4⟩
    go_simp
    have hd0 : w4.cell? ⟨q, 0, none⟩ = some (.int .i64 (c : Nat)) := (hb4.cell (p := ⟨q, 0, none⟩) hqd).trans e0
    have hd1 : w4.cell? ⟨q, 1, none⟩ = some (.int .i64 (n : Nat)) := (hb4.cell (p := ⟨q, 1, none⟩) hqd).trans e1
    refine hK.out _ _ (fun _ => ⟨hd0, hd1⟩) (fun _ => ?_)
    clear hK K
    try simp only [Act.put, List.setIfInBounds_toArray, List.set_cons_zero, List.set_cons_succ]
    refine J_step (i := 5) (by kernel_rfl) rfl (fun K hK => ?_)
    go_simp
    go_at_call 82
    refine (putw_ok w4 B gw false v l (back c n) n (HD.out.mono hb4) (by have := hb4.size; omega) (by omega) (back_lt c n) HLL.out).mono ?_
    rintro e w5 hpost
    rw [back_dg] at hpost
    have hpost2 := putw_below (HBD.out.trans (hb4.mono HBD.out.size)) hpost
    obtain ⟨rfl, _, _, hch, _⟩ := hpost
    have hk0 : w5.cell? ⟨q, 0, none⟩ = some (.int .i64 (c : Nat)) := (World.cell?_of_block (hch.block q (Nat.lt_of_lt_of_le hqd hb4.size) HNQ.out)).trans hd0
    have hk1 : w5.cell? ⟨q, 1, none⟩ = some (.int .i64 (n : Nat)) := (World.cell?_of_block (hch.block q (Nat.lt_of_lt_of_le hqd hb4.size) HNQ.out)).trans hd1
    have HP := Lib.hid hpost2
    clear hpost2 hch
    go_simp
    refine hK.out _ _ (fun _ => ⟨hk0, hk1⟩) (fun _ => ?_)
    clear hK K
    try simp only [Act.put, List.setIfInBounds_toArray, List.set_cons_zero, List.set_cons_succ]
    refine J_step (i := 6) (by kernel_rfl) rfl (fun K hK => ?_)
    go_simp
    refine hK.out _ _ (fun h => absurd rfl h) (fun _ => ?_)
    clear hK K
    try simp only [Act.put, List.setIfInBounds_toArray, List.set_cons_zero, List.set_cons_succ]
    refine J_done (by kernel_rfl) ?_ _
    refine NoPanic.normal ?_
    go_wp2
    go_ret
    exact HP.out
  · go_wp2_with fail
    refine (putw_ok w2 B gw true v l c n HH2.out hB2 (by omega) HC.out HLL.out).mono ?_
    rintro e w5 hpost
    have HP := Lib.hid (putw_below HB.out hpost)
    obtain ⟨rfl, _⟩ := hpost
    go_wp2
    go_ret
    exact HP.out
end Bk
end Go.Proofs.YtpoilaappcjbeaaGreatDoor
end

section
namespace Go.Proofs.YtpoilaappcjbeaaGreatDoor
open Go.RowKit

namespace Bc
/-- The base function as a value. -/
def fvK : Kd → Value
  | .lit => .func (.func 77) #[] #[]
  | .dst => .func (.func 78) #[] #[]
  | .run => .func (.func 88) #[] #[]
/-- A book of lengths, whose blocks lie in a zone. -/
def Bw (w : World) (D : Nat → Prop) (g : Nat) (L : List Int) : Prop :=
  ∃ (B : Nat) (fs : Nat → Int) (vs : Nat → Value) (wv : Value), (∀ n, n < 17 → fs n = (Bk.fst (Bk.rowsL L) n : Nat)) ∧ Bk.NB w B g fs vs wv (Bk.nx (Bk.rowsL L) 17 : Nat) (Bk.rowsL L) (wsL L) ∧ D g ∧ (∀ k, wv.ownBlock = some k → D k) ∧ (∀ k, Bk.Tr vs k → D k)
theorem Bw.kept {w w' : World} {D T : Nat → Prop} {g : Nat} {L : List Int} (h : Bw w D g L) (c : Ch w w' T) (hT : ∀ k, D k → ¬ T k) : Bw w' D g L := by
  obtain ⟨B, fs, vs, wv, h1, h2, h3, h4, h5⟩ := h
  exact ⟨B, fs, vs, wv, h1, h2.kept c (hT _ h3) (fun k hk => hT _ (h4 k hk)) (fun k hk => hT _ (h5 k hk)), h3, h4, h5⟩
theorem Bw.wide {w : World} {D E : Nat → Prop} {g : Nat} {L : List Int} (h : Bw w D g L) (hG : ∀ k, D k → E k) : Bw w E g L := by
  obtain ⟨B, fs, vs, wv, h1, h2, h3, h4, h5⟩ := h
  exact ⟨B, fs, vs, wv, h1, h2, hG _ h3, fun k hk => hG _ (h4 k hk), fun k hk => hG _ (h5 k hk)⟩
theorem Bw.mono {w w' : World} {D : Nat → Prop} {g : Nat} {L : List Int} (h : Bw w D g L) (hb : Below w.heap.size w w') : Bw w' D g L :=
  h.kept (Ch.of_below (T := fun _ => False) hb) (fun _ _ h => h)
theorem Bw.book {w : World} {D : Nat → Prop} {g : Nat} {L : List Int} (h : Bw w D g L) : Bk.Book w w.heap.size g (Bk.rowsL L) (wsL L) := by
  obtain ⟨B, fs, vs, wv, h1, h2, _⟩ := h
  exact Bk.Book.of h2 h1
theorem bw_low {w1 : World} {B q g : Nat} {L : List Int} {fs : Nat → Int} {vs : Nat → Value} {wv : Value} (h1 : ∀ n, n < 17 → fs n = (Bk.fst (Bk.rowsL L) n : Nat)) (h2 : Bk.NB w1 B g fs vs wv (Bk.nx (Bk.rowsL L) 17 : Nat) (Bk.rowsL L) (Bk.wsOf (Bk.seq (Bk.rowsL L) 17) L.length)) (hq : q ≤ B) : Bw w1 (fun j => q ≤ j) g L :=
  ⟨B, fs, vs, wv, h1, h2, Nat.le_trans hq h2.hg, fun k hk => Nat.le_trans hq (h2.words.lt k hk).1, fun k ⟨n, hn, hk⟩ => Nat.le_trans hq ((h2.rows n hn).lt k hk).1⟩
/-- A table in memory: its counts, its lengths, its book. -/
structure Tb (w : World) (D : Nat → Prop) (a : Option Addr) (n c : Nat) (C : List Int) (b : Option Addr) (m d : Nat) (L : List Int) (g : Nat) : Prop where
  hc : Is .i64 w a n c C
  hl : Is .i64 w b m d L
  bw : Bw w D g L
def tbV (a : Option Addr) (n c : Nat) (b : Option Addr) (m d g : Nat) (k : Kd) : Value := .agg #[.slice a n c, .slice b m d, .pointer (some ⟨g, 0, none⟩), fvK k]
theorem Tb.mono {w w' : World} {D : Nat → Prop} {a : Option Addr} {n c : Nat} {C : List Int} {b : Option Addr} {m d : Nat} {L : List Int} {g : Nat} (h : Tb w D a n c C b m d L g) (hb : Below w.heap.size w w') : Tb w' D a n c C b m d L g :=
  ⟨h.hc.mono hb, h.hl.mono hb, h.bw.mono hb⟩
theorem load_tab (W : World) (cb : Nat) (cs : Array Value) (hs : cs.size = 4) (hrow : W.heap[cb]? = some (.cells cs 84 (0, 0))) : (loadVar 84 ⟨cb, 0, none⟩).run Tryz.prog W = .ok (.agg cs) W :=
  run_loadVar_row W cb 84 84 cs (0, 0) _ hrow Tryz.underlying84 rfl (by rw [hs]; kernel_rfl)
theorem tab_results (tmps : Array Value) (W : World) (cb : Nat) (cs : Array Value) (u : Value) (h2 : tmps.getD 6 undef = .pointer (some ⟨cb, 0, none⟩)) (h3 : tmps.getD 7 undef = u) (hrow : W.heap[cb]? = some (.cells cs 84 (0, 0))) (hs : cs.size = 4 := by rfl) :
    (results Tryz.f76 tmps).run Tryz.prog W = .ok (.tuple #[.agg cs, u]) W := by
  refine (results_cell_tmp (p := 6) (u := 7) (ty := 84) (by kernel_rfl) tmps Tryz.prog W).trans ?_
  rw [h2, h3]
  simp [asAddr, load_tab W cb cs hs hrow, Result.andThen]
def TabPost (w : World) (a : Option Addr) (n c : Nat) (b : Option Addr) (m d : Nat) (L : List Int) (k : Kd) (e : Ending) (w' : World) : Prop :=
  ∃ g, e = .returned (.tuple #[tbV a n c b m d g k, .nilIface]) ∧ Bw w' (fun j => w.heap.size ≤ j) g L ∧ Below w.heap.size w w'
set_option maxRecDepth 100000 in
set_option maxHeartbeats 2000000 in
theorem newTable_any (k : Kd) (a : Option Addr) (n c : Nat) (b : Option Addr) (m d : Nat) (L : List Int) (w : World) (hi : Is .i64 w b m d L) (hf : Cn.freeB L = true) (hm : m ≤ 600) :
    Calls Tryz.prog 76 #[.slice a n c, .slice b m d, fvK k] w (TabPost w a n c b m d L k) := by
  have HB0 := Lib.hid (below_alloc w (.cells #[.slice none 0 0, .slice none 0 0, .pointer none, .nilFunc] 84))
  have HC := Lib.hid (fun w' (hb : Below w.heap.size w w') => Bk.book_low b m d L w' (hi.mono hb) (by omega))
  have HF := Lib.hid hf
  clear hi hf
  cases k <;> simp only [fvK]
  · go_enter Tryz.func76, Tryz.ntmps76
    go_wp2_with fail
    have hrow := heap_alloc_last w (.cells #[.slice none 0 0, .slice none 0 0, .pointer none, .nilFunc] 84)
    have hsz : (w.alloc (.cells #[.slice none 0 0, .slice none 0 0, .pointer none, .nilFunc] 84)).heap.size = w.heap.size + 1 := by simp
    refine (HC.out _ HB0.out).mono ?_
    rintro e w1 (⟨_, g, fs, vs, wv, rfl, h1, h2, hb⟩ | ⟨h1, _⟩)
    rotate_left
    · rw [HF.out] at h1; cases h1
    have hr1 := (hb.block w.heap.size (by rw [hsz]; omega)).trans hrow
    have HBZ : Hid (Bw w1 (fun j => w.heap.size + 1 ≤ j) g L) := Lib.hid (bw_low h1 h2 (by rw [hsz]; omega))
    have HB1 := Lib.hid (below_then HB0.out hb)
    have HQ : Hid (w.heap.size < w1.heap.size) := Lib.hid (by have := hb.size; omega)
    have HR := Lib.hid hr1
    clear h1 h2 hb hrow hsz HC HB0
    generalize hqe : w.heap.size = q at *
    have HQE := Lib.hid hqe
    clear hqe
    have c0 := cell_of_row w1 q 0 _ _ (0, 0) HR.out
    have c1 := cell_of_row w1 q 1 _ _ (0, 0) HR.out
    have c2 := cell_of_row w1 q 2 _ _ (0, 0) HR.out
    have c3 := cell_of_row w1 q 3 _ _ (0, 0) HR.out
    have f0 := frozen_of_row w1 q 0 _ _ HR.out
    have f1 := frozen_of_row w1 q 1 _ _ HR.out
    have f2 := frozen_of_row w1 q 2 _ _ HR.out
    have f3 := frozen_of_row w1 q 3 _ _ HR.out
    simp only [List.getElem?_toArray, List.getElem?_cons_zero, List.getElem?_cons_succ] at c0 c1 c2 c3
    have hw4 : ∀ fv : Value, ((((w1.setCell ⟨q, 0, none⟩ (.slice a n c)).setCell ⟨q, 1, none⟩ (.slice b m d)).setCell ⟨q, 2, none⟩ (.pointer (some ⟨g, 0, none⟩))).setCell ⟨q, 3, none⟩ fv).heap[q]? = some (.cells #[.slice a n c, .slice b m d, .pointer (some ⟨g, 0, none⟩), fv] 84 (0, 0)) := fun fv => by
      have r1 := heap_setCell_same w1 q 0 _ _ (.slice a n c) HR.out
      have r2 := heap_setCell_same _ q 1 _ _ (.slice b m d) r1
      have r3 := heap_setCell_same _ q 2 _ _ (.pointer (some ⟨g, 0, none⟩)) r2
      have r4 := heap_setCell_same _ q 3 _ _ fv r3
      exact r4
    have HW4 := Lib.hid hw4
    have HBL : Hid (∀ x0 x1 x2 x3 : Value, Below q w ((((w1.setCell ⟨q, 0, none⟩ x0).setCell ⟨q, 1, none⟩ x1).setCell ⟨q, 2, none⟩ x2).setCell ⟨q, 3, none⟩ x3)) := Lib.hid (fun x0 x1 x2 x3 => (((HB1.out.setCell (p := ⟨q, 0, none⟩) (Nat.le_refl _) _).setCell (p := ⟨q, 1, none⟩) (Nat.le_refl _) _).setCell (p := ⟨q, 2, none⟩) (Nat.le_refl _) _).setCell (p := ⟨q, 3, none⟩) (Nat.le_refl _) _)
    have HBK : Hid (∀ x0 x1 x2 x3 : Value, Bw ((((w1.setCell ⟨q, 0, none⟩ x0).setCell ⟨q, 1, none⟩ x1).setCell ⟨q, 2, none⟩ x2).setCell ⟨q, 3, none⟩ x3) (fun j => q ≤ j) g L) := Lib.hid (fun x0 x1 x2 x3 => (HBZ.out.kept (((((Ch.refl w1 (fun k => k = q)).set (p := ⟨q, 0, none⟩) (.inl rfl) x0).set (p := ⟨q, 1, none⟩) (.inl rfl) x1).set (p := ⟨q, 2, none⟩) (.inl rfl) x2).set (p := ⟨q, 3, none⟩) (.inl rfl) x3) (fun k hk e => by omega)).wide (fun k hk => by omega))
    clear hw4 HBZ HB1 HR hr1
    go_wp2
    refine bodyPost_ret (tab_results _ _ q _ .nilIface rfl rfl (HW4.out _)) rfl ⟨g, rfl, by rw [HQE.out]; exact HBK.out _ _ _ _, by rw [HQE.out]; exact HBL.out _ _ _ _⟩
  · go_enter Tryz.func76, Tryz.ntmps76
    go_wp2_with fail
    have hrow := heap_alloc_last w (.cells #[.slice none 0 0, .slice none 0 0, .pointer none, .nilFunc] 84)
    have hsz : (w.alloc (.cells #[.slice none 0 0, .slice none 0 0, .pointer none, .nilFunc] 84)).heap.size = w.heap.size + 1 := by simp
    refine (HC.out _ HB0.out).mono ?_
    rintro e w1 (⟨_, g, fs, vs, wv, rfl, h1, h2, hb⟩ | ⟨h1, _⟩)
    rotate_left
    · rw [HF.out] at h1; cases h1
    have hr1 := (hb.block w.heap.size (by rw [hsz]; omega)).trans hrow
    have HBZ : Hid (Bw w1 (fun j => w.heap.size + 1 ≤ j) g L) := Lib.hid (bw_low h1 h2 (by rw [hsz]; omega))
    have HB1 := Lib.hid (below_then HB0.out hb)
    have HQ : Hid (w.heap.size < w1.heap.size) := Lib.hid (by have := hb.size; omega)
    have HR := Lib.hid hr1
    clear h1 h2 hb hrow hsz HC HB0
    generalize hqe : w.heap.size = q at *
    have HQE := Lib.hid hqe
    clear hqe
    have c0 := cell_of_row w1 q 0 _ _ (0, 0) HR.out
    have c1 := cell_of_row w1 q 1 _ _ (0, 0) HR.out
    have c2 := cell_of_row w1 q 2 _ _ (0, 0) HR.out
    have c3 := cell_of_row w1 q 3 _ _ (0, 0) HR.out
    have f0 := frozen_of_row w1 q 0 _ _ HR.out
    have f1 := frozen_of_row w1 q 1 _ _ HR.out
    have f2 := frozen_of_row w1 q 2 _ _ HR.out
    have f3 := frozen_of_row w1 q 3 _ _ HR.out
    simp only [List.getElem?_toArray, List.getElem?_cons_zero, List.getElem?_cons_succ] at c0 c1 c2 c3
    have hw4 : ∀ fv : Value, ((((w1.setCell ⟨q, 0, none⟩ (.slice a n c)).setCell ⟨q, 1, none⟩ (.slice b m d)).setCell ⟨q, 2, none⟩ (.pointer (some ⟨g, 0, none⟩))).setCell ⟨q, 3, none⟩ fv).heap[q]? = some (.cells #[.slice a n c, .slice b m d, .pointer (some ⟨g, 0, none⟩), fv] 84 (0, 0)) := fun fv => by
      have r1 := heap_setCell_same w1 q 0 _ _ (.slice a n c) HR.out
      have r2 := heap_setCell_same _ q 1 _ _ (.slice b m d) r1
      have r3 := heap_setCell_same _ q 2 _ _ (.pointer (some ⟨g, 0, none⟩)) r2
      have r4 := heap_setCell_same _ q 3 _ _ fv r3
      exact r4
    have HW4 := Lib.hid hw4
    have HBL : Hid (∀ x0 x1 x2 x3 : Value, Below q w ((((w1.setCell ⟨q, 0, none⟩ x0).setCell ⟨q, 1, none⟩ x1).setCell ⟨q, 2, none⟩ x2).setCell ⟨q, 3, none⟩ x3)) := Lib.hid (fun x0 x1 x2 x3 => (((HB1.out.setCell (p := ⟨q, 0, none⟩) (Nat.le_refl _) _).setCell (p := ⟨q, 1, none⟩) (Nat.le_refl _) _).setCell (p := ⟨q, 2, none⟩) (Nat.le_refl _) _).setCell (p := ⟨q, 3, none⟩) (Nat.le_refl _) _)
    have HBK : Hid (∀ x0 x1 x2 x3 : Value, Bw ((((w1.setCell ⟨q, 0, none⟩ x0).setCell ⟨q, 1, none⟩ x1).setCell ⟨q, 2, none⟩ x2).setCell ⟨q, 3, none⟩ x3) (fun j => q ≤ j) g L) := Lib.hid (fun x0 x1 x2 x3 => (HBZ.out.kept (((((Ch.refl w1 (fun k => k = q)).set (p := ⟨q, 0, none⟩) (.inl rfl) x0).set (p := ⟨q, 1, none⟩) (.inl rfl) x1).set (p := ⟨q, 2, none⟩) (.inl rfl) x2).set (p := ⟨q, 3, none⟩) (.inl rfl) x3) (fun k hk e => by omega)).wide (fun k hk => by omega))
    clear hw4 HBZ HB1 HR hr1
    go_wp2
    refine bodyPost_ret (tab_results _ _ q _ .nilIface rfl rfl (HW4.out _)) rfl ⟨g, rfl, by rw [HQE.out]; exact HBK.out _ _ _ _, by rw [HQE.out]; exact HBL.out _ _ _ _⟩
  · go_enter Tryz.func76, Tryz.ntmps76
    go_wp2_with fail
    have hrow := heap_alloc_last w (.cells #[.slice none 0 0, .slice none 0 0, .pointer none, .nilFunc] 84)
    have hsz : (w.alloc (.cells #[.slice none 0 0, .slice none 0 0, .pointer none, .nilFunc] 84)).heap.size = w.heap.size + 1 := by simp
    refine (HC.out _ HB0.out).mono ?_
    rintro e w1 (⟨_, g, fs, vs, wv, rfl, h1, h2, hb⟩ | ⟨h1, _⟩)
    rotate_left
    · rw [HF.out] at h1; cases h1
    have hr1 := (hb.block w.heap.size (by rw [hsz]; omega)).trans hrow
    have HBZ : Hid (Bw w1 (fun j => w.heap.size + 1 ≤ j) g L) := Lib.hid (bw_low h1 h2 (by rw [hsz]; omega))
    have HB1 := Lib.hid (below_then HB0.out hb)
    have HQ : Hid (w.heap.size < w1.heap.size) := Lib.hid (by have := hb.size; omega)
    have HR := Lib.hid hr1
    clear h1 h2 hb hrow hsz HC HB0
    generalize hqe : w.heap.size = q at *
    have HQE := Lib.hid hqe
    clear hqe
    have c0 := cell_of_row w1 q 0 _ _ (0, 0) HR.out
    have c1 := cell_of_row w1 q 1 _ _ (0, 0) HR.out
    have c2 := cell_of_row w1 q 2 _ _ (0, 0) HR.out
    have c3 := cell_of_row w1 q 3 _ _ (0, 0) HR.out
    have f0 := frozen_of_row w1 q 0 _ _ HR.out
    have f1 := frozen_of_row w1 q 1 _ _ HR.out
    have f2 := frozen_of_row w1 q 2 _ _ HR.out
    have f3 := frozen_of_row w1 q 3 _ _ HR.out
    simp only [List.getElem?_toArray, List.getElem?_cons_zero, List.getElem?_cons_succ] at c0 c1 c2 c3
    have hw4 : ∀ fv : Value, ((((w1.setCell ⟨q, 0, none⟩ (.slice a n c)).setCell ⟨q, 1, none⟩ (.slice b m d)).setCell ⟨q, 2, none⟩ (.pointer (some ⟨g, 0, none⟩))).setCell ⟨q, 3, none⟩ fv).heap[q]? = some (.cells #[.slice a n c, .slice b m d, .pointer (some ⟨g, 0, none⟩), fv] 84 (0, 0)) := fun fv => by
      have r1 := heap_setCell_same w1 q 0 _ _ (.slice a n c) HR.out
      have r2 := heap_setCell_same _ q 1 _ _ (.slice b m d) r1
      have r3 := heap_setCell_same _ q 2 _ _ (.pointer (some ⟨g, 0, none⟩)) r2
      have r4 := heap_setCell_same _ q 3 _ _ fv r3
      exact r4
    have HW4 := Lib.hid hw4
    have HBL : Hid (∀ x0 x1 x2 x3 : Value, Below q w ((((w1.setCell ⟨q, 0, none⟩ x0).setCell ⟨q, 1, none⟩ x1).setCell ⟨q, 2, none⟩ x2).setCell ⟨q, 3, none⟩ x3)) := Lib.hid (fun x0 x1 x2 x3 => (((HB1.out.setCell (p := ⟨q, 0, none⟩) (Nat.le_refl _) _).setCell (p := ⟨q, 1, none⟩) (Nat.le_refl _) _).setCell (p := ⟨q, 2, none⟩) (Nat.le_refl _) _).setCell (p := ⟨q, 3, none⟩) (Nat.le_refl _) _)
    have HBK : Hid (∀ x0 x1 x2 x3 : Value, Bw ((((w1.setCell ⟨q, 0, none⟩ x0).setCell ⟨q, 1, none⟩ x1).setCell ⟨q, 2, none⟩ x2).setCell ⟨q, 3, none⟩ x3) (fun j => q ≤ j) g L) := Lib.hid (fun x0 x1 x2 x3 => (HBZ.out.kept (((((Ch.refl w1 (fun k => k = q)).set (p := ⟨q, 0, none⟩) (.inl rfl) x0).set (p := ⟨q, 1, none⟩) (.inl rfl) x1).set (p := ⟨q, 2, none⟩) (.inl rfl) x2).set (p := ⟨q, 3, none⟩) (.inl rfl) x3) (fun k hk e => by omega)).wide (fun k hk => by omega))
    clear hw4 HBZ HB1 HR hr1
    go_wp2
    refine bodyPost_ret (tab_results _ _ q _ .nilIface rfl rfl (HW4.out _)) rfl ⟨g, rfl, by rw [HQE.out]; exact HBK.out _ _ _ _, by rw [HQE.out]; exact HBL.out _ _ _ _⟩
theorem lbV_eq (s : Int) : Sy.lbV s = bval .lit s := by
  unfold Sy.lbV bval bok
  simp only [bse]
  by_cases h : 257 ≤ s ∧ s ≤ 285
  · rw [if_pos h, if_pos h, decide_eq_true h]
  · rw [if_neg h, if_neg h, decide_eq_false h]; rfl
theorem dbV_eq (s : Int) : Sy.dbV s = bval .dst s := by
  unfold Sy.dbV bval bok
  simp only [bse]
  by_cases h : 0 ≤ s ∧ s ≤ 29
  · rw [if_pos h, if_pos h, decide_eq_true h]
  · rw [if_neg h, if_neg h, decide_eq_false h]; rfl
theorem rb_eq (s : Int) : Bl.rb s = bval .run s := by
  unfold Bl.rb bval bok
  simp only [bse]
  by_cases h : 0 ≤ s ∧ s ≤ 18
  · rw [if_pos h, if_pos h, decide_eq_true h]
  · rw [if_neg h, if_neg h, decide_eq_false h]; rfl
theorem lbase_any (s : Int) (w : World) (hw : (Lit.int .i64 s).wf = true) : Calls Tryz.prog 77 #[.int .i64 s] w fun e w' => e = .returned (bval .lit s) ∧ w = w' := by rw [← lbV_eq]; exact lengthBase_any s w hw
theorem dbase_any (s : Int) (w : World) (hw : (Lit.int .i64 s).wf = true) : Calls Tryz.prog 78 #[.int .i64 s] w fun e w' => e = .returned (bval .dst s) ∧ w = w' := by rw [← dbV_eq]; exact distBase_any s w hw
theorem rbase_any (s : Int) (w : World) : Calls Tryz.prog 88 #[.int .i64 s] w fun e w' => e = .returned (bval .run s) ∧ w = w' := by rw [← rb_eq]; exact runBase_any s w
set_option maxHeartbeats 1000000 in
theorem extra_any (k : Kd) (a : Option Addr) (n c : Nat) (b : Option Addr) (m d g : Nat) (s : Int) (w : World) (hw : (Lit.int .i64 s).wf = true) :
    Calls Tryz.prog 79 #[tbV a n c b m d g k, .int .i64 s] w fun e w' => e = .returned (.int .i64 (xt k s : Nat)) ∧ Below w.heap.size w w' := by
  have HX : Hid ((bse k s).2 = xt k s) := Lib.hid rfl
  have HW := Lib.hid hw
  clear hw
  unfold tbV
  cases k <;> simp only [fvK]
  · have HB := Lib.hid (below_alloc w (.cells #[.slice a n c, .slice b m d, .pointer (some ⟨g, 0, none⟩), .func (.func 77) #[] #[]] 84))
    have hrow := heap_alloc_last w (.cells #[.slice a n c, .slice b m d, .pointer (some ⟨g, 0, none⟩), .func (.func 77) #[] #[]] 84)
    have c3 : (w.alloc (.cells #[.slice a n c, .slice b m d, .pointer (some ⟨g, 0, none⟩), .func (.func 77) #[] #[]] 84)).cell? ⟨w.heap.size, 3, none⟩ = some (.func (.func 77) #[] #[]) := by rw [cell_of_row _ _ _ _ _ (0, 0) hrow]; rfl
    clear hrow
    go_enter Tryz.func79, Tryz.ntmps79
    go_wp2_with fail
    refine (lbase_any s _ HW.out).mono ?_
    rintro e w1 ⟨rfl, rfl⟩
    unfold bval
    rw [HX.out]
    go_wp2
    go_ret
    exact ⟨rfl, HB.out⟩
  · have HB := Lib.hid (below_alloc w (.cells #[.slice a n c, .slice b m d, .pointer (some ⟨g, 0, none⟩), .func (.func 78) #[] #[]] 84))
    have hrow := heap_alloc_last w (.cells #[.slice a n c, .slice b m d, .pointer (some ⟨g, 0, none⟩), .func (.func 78) #[] #[]] 84)
    have c3 : (w.alloc (.cells #[.slice a n c, .slice b m d, .pointer (some ⟨g, 0, none⟩), .func (.func 78) #[] #[]] 84)).cell? ⟨w.heap.size, 3, none⟩ = some (.func (.func 78) #[] #[]) := by rw [cell_of_row _ _ _ _ _ (0, 0) hrow]; rfl
    clear hrow
    go_enter Tryz.func79, Tryz.ntmps79
    go_wp2_with fail
    refine (dbase_any s _ HW.out).mono ?_
    rintro e w1 ⟨rfl, rfl⟩
    unfold bval
    rw [HX.out]
    go_wp2
    go_ret
    exact ⟨rfl, HB.out⟩
  · have HB := Lib.hid (below_alloc w (.cells #[.slice a n c, .slice b m d, .pointer (some ⟨g, 0, none⟩), .func (.func 88) #[] #[]] 84))
    have hrow := heap_alloc_last w (.cells #[.slice a n c, .slice b m d, .pointer (some ⟨g, 0, none⟩), .func (.func 88) #[] #[]] 84)
    have c3 : (w.alloc (.cells #[.slice a n c, .slice b m d, .pointer (some ⟨g, 0, none⟩), .func (.func 88) #[] #[]] 84)).cell? ⟨w.heap.size, 3, none⟩ = some (.func (.func 88) #[] #[]) := by rw [cell_of_row _ _ _ _ _ (0, 0) hrow]; rfl
    clear hrow
    go_enter Tryz.func79, Tryz.ntmps79
    go_wp2_with fail
    refine (rbase_any s _).mono ?_
    rintro e w1 ⟨rfl, rfl⟩
    unfold bval
    rw [HX.out]
    go_wp2
    go_ret
    exact ⟨rfl, HB.out⟩
end Bc
end Go.Proofs.YtpoilaappcjbeaaGreatDoor
end

section
namespace Go.Proofs.YtpoilaappcjbeaaGreatDoor
open Go.RowKit

namespace Bc
theorem tot_le (k : Kd) {C L : List Int} (hC : ∀ i, 0 ≤ C.getD i 0 ∧ C.getD i 0 ≤ 1000000000) (hL : ∀ i, 0 ≤ L.getD i 0 ∧ L.getD i 0 ≤ 16) : ∀ n, 0 ≤ tot k C L n ∧ tot k C L n ≤ (n : Int) * 30000000000
  | 0 => ⟨by simp [tot], by simp [tot]⟩
  | n + 1 => by
    have ih := tot_le k hC hL n
    have h1 := hC n
    have h2 := hL n
    have h3 := xt_le k (n : Int)
    have h4 : 0 ≤ C.getD n 0 * (L.getD n 0 + (xt k (n : Int) : Nat)) := Int.mul_nonneg h1.1 (by omega)
    have h5 : C.getD n 0 * (L.getD n 0 + (xt k (n : Int) : Nat)) ≤ 1000000000 * 30 := Int.mul_le_mul h1.2 (by omega) (by omega) (by omega)
    rw [tot]
    omega
set_option maxRecDepth 100000 in
set_option maxHeartbeats 4000000 in
theorem bits_any (k : Kd) (a : Option Addr) (n c : Nat) (C : List Int) (b : Option Addr) (m d : Nat) (L : List Int) (g : Nat) (w : World) (hi : Is .i64 w a n c C) (hj : Is .i64 w b m d L) (hn : n ≤ m) (hn3 : n ≤ 300)
    (hC : ∀ i, 0 ≤ C.getD i 0 ∧ C.getD i 0 ≤ 1000000000) (hL : ∀ i, 0 ≤ L.getD i 0 ∧ L.getD i 0 ≤ 16) :
    Calls Tryz.prog 91 #[tbV a n c b m d g k] w fun e w' => e = .returned (.int .i64 (tot k C L n)) ∧ Below w.heap.size w w' := by
  unfold tbV
  have HEX : Hid (∀ (s : Int) (w : World), (Lit.int .i64 s).wf = true → Calls Tryz.prog 79 #[.agg #[.slice a n c, .slice b m d, .pointer (some ⟨g, 0, none⟩), fvK k], .int .i64 s] w fun e w' => e = .returned (.int .i64 (xt k s : Nat)) ∧ Below w.heap.size w w') := Lib.hid (fun s w hs => extra_any k a n c b m d g s w hs)
  have HTL := Lib.hid (tot_le k hC hL)
  have HXL := Lib.hid (xt_le k)
  have hone : (fvK k).oneCell' = true := by cases k <;> rfl
  generalize fvK k = fv at *
  have hb0 := below_alloc w (.cells #[.slice a n c, .slice b m d, .pointer (some ⟨g, 0, none⟩), fv] 84)
  have HB0 := Lib.hid hb0
  have HI := Lib.hid (hi.mono hb0)
  have HJ := Lib.hid (hj.mono hb0)
  have HR : Hid ((w.alloc (.cells #[.slice a n c, .slice b m d, .pointer (some ⟨g, 0, none⟩), fv] 84)).heap[w.heap.size]? = some (.cells #[.slice a n c, .slice b m d, .pointer (some ⟨g, 0, none⟩), fv] 84 (0, 0))) := Lib.hid (heap_alloc_last w _)
  have c0 := cell_of_row _ _ 0 _ _ (0, 0) HR.out
  simp only [List.getElem?_toArray, List.getElem?_cons_zero, List.getElem?_cons_succ] at c0
  have HCC := Lib.hid hC
  have HLL := Lib.hid hL
  clear hi hj hb0 hC hL
  go_enter Tryz.func91, Tryz.ntmps91
  go_wp2_with fail
  clear c0
  have HQ : Hid (w.heap.size < (w.alloc (.cells #[.slice a n c, .slice b m d, .pointer (some ⟨g, 0, none⟩), fv] 84)).heap.size) := Lib.hid (by simp)
  revert HB0 HI HJ HR HQ
  generalize w.alloc (.cells #[.slice a n c, .slice b m d, .pointer (some ⟨g, 0, none⟩), fv] 84) = w1
  intro HB0 HI HJ HR HQ
  generalize hqe : w.heap.size = q at *
  have HQE := Lib.hid hqe
  clear hqe
  go_loopw [3, 9] (fun sv iv wr => ∃ j : Nat, j ≤ n ∧ iv = .int .i64 j ∧ sv = .int .i64 (tot k C L j) ∧ Hid (Below w1.heap.size w1 wr)) (fun _ iv _ => n - (intOf iv).toNat)
  case atStart => exact ⟨0, by omega, rfl, rfl, Lib.hid (Below.refl _ _)⟩
  case round =>
    obtain ⟨j, hj, rfl, rfl, HB⟩ := hrel
    by_cases hlt : j < n
    · obtain ⟨b1, o1, rfl, _, t0⟩ := (HI.out.mono HB.out).at' j hlt
      obtain ⟨b2, o2, rfl, hbl, t1⟩ := (HJ.out.mono HB.out).at' j (by omega)
      have hrow := (HB.out.block q HQ.out).trans HR.out
      have c0 := cell_of_row _ _ 0 _ _ (0, 0) hrow
      have c1 := cell_of_row _ _ 1 _ _ (0, 0) hrow
      have c2 := cell_of_row _ _ 2 _ _ (0, 0) hrow
      have c3 := cell_of_row _ _ 3 _ _ (0, 0) hrow
      simp only [List.getElem?_toArray, List.getElem?_cons_zero, List.getElem?_cons_succ] at c0 c1 c2 c3
      have HN : Hid (tot k C L (j + 1) = tot k C L j + C.getD j 0 * (L.getD j 0 + (xt k (j : Int) : Nat))) := Lib.hid rfl
      have hz1 := HCC.out j
      have hz2 := HLL.out j
      have hx := HXL.out (j : Int)
      have htl := HTL.out j
      have HEJ := Lib.hid (fun w => HEX.out (j : Int) w (by go_wf))
      clear hrow
      generalize C.getD j 0 = z at *
      generalize L.getD j 0 = y at *
      generalize xt k (j : Int) = x at *
      generalize tot k C L j = S at *
      have hm1 : 0 ≤ z * (y + (x : Int)) := Int.mul_nonneg hz1.1 (by omega)
      have hm2 : z * (y + (x : Int)) ≤ 1000000000 * 30 := Int.mul_le_mul hz1.2 (by omega) (by omega) (by omega)
      have v1 : IntKind.i64.wrap (y + (x : Int)) = y + (x : Int) := IntWalk.i64_in _ ⟨by omega, by omega⟩
      have v2 : IntKind.i64.wrap (z * (y + (x : Int))) = z * (y + (x : Int)) := IntWalk.i64_in _ ⟨by omega, by omega⟩
      have v3 : IntKind.i64.wrap (S + z * (y + (x : Int))) = S + z * (y + (x : Int)) := IntWalk.i64_in _ ⟨by omega, by omega⟩
      have i0 : (0 : Int) ≤ (j : Int) := by omega
      have i1 : (j : Int) < (m : Int) := by omega
      have HQ2 : Hid (q < wr.heap.size ∧ b2 < wr.heap.size) := Lib.hid ⟨Nat.lt_of_lt_of_le HQ.out HB.out.size, hbl⟩
      clear hm1 hm2 hz1 hz2 hx htl hbl
      go_wp2_with fail
      go_region_held3 (fun w' => w'.cell? ⟨q, 0, none⟩ = some (.slice (some ⟨b1, o1, none⟩) n c) ∧ w'.cell? ⟨q, 1, none⟩ = some (.slice (some ⟨b2, o2, none⟩) m d) ∧ w'.cell? ⟨q, 2, none⟩ = some (.pointer (some ⟨g, 0, none⟩)) ∧ w'.cell? ⟨q, 3, none⟩ = some fv ∧ w'.cell? ⟨b2, o2 + j, none⟩ = some (.int .i64 y)) (go_keep)
        (first | (go_at_call 79; refine (HEJ.out _).mono ?_; rintro e w3 ⟨rfl, hb3⟩; have HB3 := Lib.hid hb3; have s0 := (hb3.cell (p := ⟨q, 0, none⟩) HQ2.out.1).trans c0; have s1 := (hb3.cell (p := ⟨q, 1, none⟩) HQ2.out.1).trans c1; have s2 := (hb3.cell (p := ⟨q, 2, none⟩) HQ2.out.1).trans c2; have s3 := (hb3.cell (p := ⟨q, 3, none⟩) HQ2.out.1).trans c3; have s4 := (hb3.cell (p := ⟨b2, o2 + j, none⟩) HQ2.out.2).trans t1; clear hb3))
      have HBE := Lib.hid (below_then HB.out (below_then (Below.drew (Below.refl wr.heap.size wr)) HB3.out))
      clear v1 v2 c0 c1 c2 c3 s0 s1 s2 s3 s4 HB3 HB
      go_wp2
      go_roundw
      case rel => exact ⟨j + 1, by omega, by go_num, by rw [HN.out], HBE⟩
      case measure => simp [intOf]; omega
    · obtain rfl : n = j := by omega
      have HP : Hid (Below w.heap.size w wr) := Lib.hid (by rw [HQE.out]; exact HB0.out.trans (HB.out.mono (Nat.le_of_lt HQ.out)))
      go_wp2
      go_ret
      exact ⟨rfl, HP.out⟩
end Bc
end Go.Proofs.YtpoilaappcjbeaaGreatDoor
end
