/- For all bytes (of at most 3000, as the law itself asks), at every place the finder finds a match just where its three bytes stood before; what it finds is a match, and with one byte more it is none. math/bits.deBruijn64tab holds what the library's text lays (the tied card). -/
import Derived.Test.YtedncnaeojomcaaDoorCards
import Derived.Test.YtedncnaeojomcaaDoorTie
import Derived.ProofKit
import Derived.Handy
import Derived.Lay
import Derived.SevenTiedAt
import Derived.Test.YtedncnaeojomcaaDoorRows
import Derived.Test.YtedncnaeojomcaaDoorOpen
import Derived.Test.YtedncnaeojomcaaDoorLzAt
import Derived.Test.YtedncnaeojomcaaDoorLzFinder0
import Derived.Test.YtedncnaeojomcaaDoorNumErr
import Derived.Test.YtedncnaeojomcaaDoorLzBump
namespace Go.Proofs.YtedncnaeojomcaaDoor.MatchFound
open Go.ChangeShapes Go.WideShapes Go.ChangeAt Go.RowKit
open Go.ChangeMaps (open_string shut_string)
set_option linter.unusedVariables false
theorem own : ownKnob Tryd.prog.godebug = none := by kernel_rfl
theorem laidOut : laidOutB Tryd.prog = true := by kernel_rfl
open Go.Maps
/-- The three bytes at a place. -/
def tri (b : Nat → Nat) (i : Nat) : Nat × Nat × Nat := (b i, b (i + 1), b (i + 2))
/-- How often they stood before. -/
def cnt (b : Nat → Nat) : Nat → Nat × Nat × Nat → Int
  | 0, _ => 0
  | s + 1, k => cnt b s k + if tri b s = k then 1 else 0
theorem cnt_in (b : Nat → Nat) (k : Nat × Nat × Nat) : ∀ s, 0 ≤ cnt b s k ∧ cnt b s k ≤ s
  | 0 => by simp [cnt]
  | s + 1 => by have := cnt_in b k s; simp only [cnt]; split <;> omega
theorem cnt_pos (b : Nat → Nat) (k : Nat × Nat × Nat) : ∀ s, 0 < cnt b s k ↔ ∃ i, i < s ∧ tri b i = k
  | 0 => by simp [cnt]
  | s + 1 => by
    have ih := cnt_pos b k s
    have h0 := (cnt_in b k s).1
    simp only [cnt]
    constructor
    · intro h
      by_cases e : tri b s = k
      · exact ⟨s, by omega, e⟩
      · rw [if_neg e] at h
        obtain ⟨i, hi, he⟩ := ih.1 (by omega)
        exact ⟨i, by omega, he⟩
    · rintro ⟨i, hi, he⟩
      by_cases e : tri b s = k
      · rw [if_pos e]; omega
      · rw [if_neg e]
        have : i ≠ s := fun h => e (h ▸ he)
        have := ih.2 ⟨i, by omega, he⟩
        omega
theorem tri_lt (l : List UInt8) (i : Nat) : K8 (tri (gb l) i) := ⟨gb_lt l i, gb_lt l _, gb_lt l _⟩
/-- A match is there just where the three bytes stood before. -/
theorem found_iff {l : List UInt8} {N t : Nat} {R : List (Nat × Nat)} (h : Lz.Rec (gb l) N t R) (ht : t + 3 ≤ N) (hN : N ≤ 3000) : 3 ≤ Lz.top R ↔ 0 < cnt (gb l) t (tri (gb l) t) := by
  have hL : 3 ≤ Lz.L N t := by unfold Lz.L; omega
  rw [cnt_pos]
  constructor
  · intro h3
    obtain ⟨m1, m2, m3, m4⟩ := (Lz.far_some h (Nat.le_refl 3) h3).1
    refine ⟨t - Lz.far R 3, by omega, ?_⟩
    have e := fun k hk => Lz.cp_eq (gb l) (Lz.L N t) (t - Lz.far R 3) t k (Nat.lt_of_lt_of_le hk m4)
    have e0 := e 0 (by omega); have e1 := e 1 (by omega); have e2 := e 2 (by omega)
    unfold tri
    simp only [Nat.add_zero] at e0
    rw [e0, e1, e2]
  · rintro ⟨i, hi, he⟩
    unfold tri at he
    simp only [Prod.mk.injEq] at he
    refine (Lz.mat_top h (f := t - i) (Nat.le_refl 3) ⟨by omega, by omega, by omega, ?_⟩).1
    have e : t - (t - i) = i := by omega
    rw [e]
    refine Lz.cp_ge hL (fun k hk => ?_)
    rcases (show k = 0 ∨ k = 1 ∨ k = 2 by omega) with rfl | rfl | rfl
    · exact he.1
    · exact he.2.1
    · exact he.2.2
theorem Bk.grown_of_below' {W W' : World} (h : Below W.heap.size W W') : W.grownBy W' none := ⟨h.os, h.tape, h.output, h.size, fun k hk _ => h.block k hk⟩
theorem found_none {l : List UInt8} {N t : Nat} {R : List (Nat × Nat)} (h : Lz.Rec (gb l) N t R) (ht : N < t + 3) : lastT R = (0, 0) := by
  have h2 := Lz.top_ge h
  by_cases h3 : 3 ≤ Lz.top R
  · have := Lz.top_le_L h h3
    unfold Lz.L at this
    omega
  · rw [(Lz.top_nil_iff h).2 (by omega)]; rfl
theorem found_or {l : List UInt8} {N t : Nat} {R : List (Nat × Nat)} (h : Lz.Rec (gb l) N t R) (hl : l.length = N) : (Lz.top R = 2 ∧ lastT R = (0, 0)) ∨ (3 ≤ Lz.top R ∧ 3 ≤ (lastT R).1 ∧ (lastT R).1 ≤ 258 ∧ (lastT R).2 ≤ 32768 ∧ Mt.ver l t (((lastT R).1 : Nat) : Int) (((lastT R).2 : Nat) : Int) = true ∧ Mt.ver l t ((((lastT R).1 + 1 : Nat)) : Int) (((lastT R).2 : Nat) : Int) = false) := by
  have h2 := Lz.top_ge h
  have h258 := Lz.top_le h
  by_cases h3 : 3 ≤ Lz.top R
  · rw [lastT_eq h h3]
    have hm := (Lz.far_some h h3 (Nat.le_refl _)).1
    refine .inr ⟨h3, h3, h258, hm.2.2.1, ?_, ?_⟩
    · rw [ver_mat l t _ _ h3, hl]; exact hm
    · cases hv : Mt.ver l t (((Lz.top R + 1 : Nat)) : Int) ((Lz.far R (Lz.top R) : Nat) : Int) with
      | false => rfl
      | true =>
        have hv2 : Mt.ver l t (((Lz.top R + 1 : Nat)) : Int) ((Lz.far R (Lz.top R) : Nat) : Int) = true := hv
        rw [ver_mat l t _ _ (by omega), hl] at hv2
        have := (Lz.mat_top h (by omega) hv2).1
        omega
  · exact .inl ⟨by omega, by rw [(Lz.top_nil_iff h).2 (by omega)]; rfl⟩
set_option maxRecDepth 100000 in
set_option maxHeartbeats 4000000 in
theorem walk (a : Option Addr) (len cap : Nat) (l : List UInt8) (w : World) (h : Bs w a len cap l) (hr : cap ≤ 140737488351232) (hL : laidMetH Tryd.prog [("math/bits.deBruijn64tab", Rows.laid_math_bits_deBruijn64tab)] w) :
    Calls Tryd.prog 5 #[.slice a len cap] w fun e w' => e = .returned (.bool true) ∧ Below w.heap.size w w' := by
  obtain ⟨hdb, hdl⟩ := db_of_laid hL
  have HDB : Hid (∀ w', Below w.heap.size w w' → Db w' ∧ 0 < w'.heap.size) := Lib.hid (fun w' hb => ⟨hdb.kept hb hdl, Nat.lt_of_lt_of_le hdl hb.size⟩)
  have hle := h.hle
  have H := Lib.hid h
  have HA := Lib.hid (alive08_any w hdb hdl)
  have hmm := @run_makeMap Tryd.prog
  clear h hL hdb hdl
  go_enter Tryd.func5, Tryd.ntmps5
  go_wp2_with fail
  refine HA.out.mono ?_
  rintro e w1 ⟨rfl, hb1⟩
  have HB1 := Lib.hid hb1
  clear hb1 HA
  by_cases hbig : 3000 < len
  · have d1 : decide ((3000 : Int) < (len : Int)) = true := by simp; omega
    go_wp2
    go_ret
    exact ⟨rfl, HB1.out⟩
  have d1 : decide ((3000 : Int) < (len : Int)) = false := by simp; omega
  have hdb1 := HDB.out w1 HB1.out
  have HN := Lib.hid (newFinder_all a len cap l w1 (H.out.mono HB1.out) (by omega) hdb1.1 hdb1.2)
  clear hdb1
  go_wp2_with fail
  refine HN.out.mono ?_
  rintro e w2 ⟨gf, eb, v, Rs, rfl, hfd, _, _, hb2⟩
  have HB2 := Lib.hid (below_then HB1.out hb2)
  have HFD := Lib.hid hfd
  clear hfd hb2 HN
  go_wp2
  have hb3 := below_alloc w2 (.map #[] 0)
  have HT3 : Hid (Tops 3 .i64 (w2.alloc (.map #[] 0)) w2.heap.size 0 0 (cnt (gb l) 0)) := Lib.hid ⟨.map [], World.ownsMap_made w2 Tryd.prog 46 (plainElem Tryd.prog 3), fun k _ => ⟨(fun h => by rw [show Maps.has (.map [] : DataW Unit) (kl k) = false from rfl] at h; cases h), fun _ => rfl⟩⟩
  have HFD3 := Lib.hid (HFD.out.below hb3)
  have HB3 := Lib.hid (below_then HB2.out hb3)
  have HMB : Hid (gf ≠ w2.heap.size ∧ eb ≠ w2.heap.size ∧ (∀ b, v.ownBlock = some b → b ≠ w2.heap.size) ∧ w.heap.size ≤ w2.heap.size) := Lib.hid (by
    obtain ⟨cs, h1, _⟩ := HFD.out.ends
    have q1 := (Array.getElem?_eq_some_iff.1 HFD.out.row).1
    have q2 := (Array.getElem?_eq_some_iff.1 h1).1
    exact ⟨by omega, by omega, fun b hb e => by have := (HFD.out.own.lt b hb).2; omega, HB2.out.size⟩)
  have HREC : Hid (∀ t, t < len → Lz.Rec (gb l) len t (ra Rs (t : Int))) := Lib.hid (fun t ht => ra_rec HFD.out.recs ht)
  have hlen := H.out.hlen
  revert HT3 HFD3 HB3 HMB
  clear hb3 HFD hmm
  generalize w2.alloc (.map #[] 0) = w3
  generalize w2.heap.size = mb
  intro HT3 HFD3 HB3 HMB
  go_loopw [25] (fun i wr => ∃ t s : Nat, t ≤ len ∧ i = .int .i64 ((t : Nat) : Int) ∧ s ≤ t ∧ (t + 2 ≤ len → s = t) ∧ Hid (Tops 3 .i64 wr mb s 0 (cnt (gb l) s)) ∧ Hid (Fd wr gf eb w1.heap.size len l len v Rs) ∧ Hid (Below w.heap.size w wr)) (fun i _ => len - (intOf i).toNat)
  case atStart => exact ⟨0, 0, by omega, rfl, by omega, fun _ => rfl, HT3, HFD3, HB3⟩
  case round =>
    clear HT3 HFD3 HB3
    obtain ⟨t, s, ht, rfl, hst, hst2, HT, HF, HB⟩ := hrel
    by_cases hlt : t < len
    · have hrec := HREC.out t hlt
      have HLO := Lib.hid (longest_any (t : Int) HF.out (by omega))
      generalize ra Rs (t : Int) = R at *
      have HFO := Lib.hid (found_or hrec hlen)
      go_wp2_with fail
      refine HLO.out.mono ?_
      rintro e w4 ⟨rfl, hb4⟩
      have HF4 := Lib.hid (HF.out.below hb4)
      have HB4 := Lib.hid (below_then HB.out hb4)
      have HT4 : Hid (Tops 3 .i64 w4 mb s 0 (cnt (gb l) s)) := Lib.hid (by obtain ⟨DD, h1, h2⟩ := HT.out; exact ⟨DD, h1.kept (Bk.grown_of_below' hb4) (by simp), h2⟩)
      by_cases h3 : len < t + 3
      · have hq := found_none hrec h3
        have d2 : decide ((len : Int) < (t : Int) + 3) = true := by simp; omega
        have HNX : Hid (Tops 3 .i64 (w4.alloc (.cells #[.int .i64 0, .int .i64 0] 33)) mb s 0 (cnt (gb l) s) ∧ Fd (w4.alloc (.cells #[.int .i64 0, .int .i64 0] 33)) gf eb w1.heap.size len l len v Rs ∧ Below w.heap.size w (w4.alloc (.cells #[.int .i64 0, .int .i64 0] 33))) := Lib.hid
          ⟨by obtain ⟨DD, h1, h2⟩ := HT4.out; exact ⟨DD, h1.alloc _, h2⟩, HF4.out.below (below_alloc _ _), below_then HB4.out (below_alloc _ _)⟩
        rw [hq]
        clear hq hb4 hrec HLO
        go_wp2
        go_roundw
        case rel => exact ⟨t + 1, s, by omega, by go_num, by omega, fun h => by omega, Lib.hid HNX.out.1, Lib.hid HNX.out.2.1, Lib.hid HNX.out.2.2⟩
        case measure => simp [intOf]; omega
      · have d2 : decide ((len : Int) < (t : Int) + 3) = false := by simp; omega
        obtain rfl : s = t := hst2 (by omega)
        have hfi := found_iff hrec (by omega) (by omega)
        clear hb4 hrec HLO
        go_wp2_with fail
        have hb5 := below_alloc w4 (.cells #[.int .i64 ((lastT R).1 : Nat), .int .i64 ((lastT R).2 : Nat)] 33)
        have hr5 : (w4.alloc (.cells #[.int .i64 ((lastT R).1 : Nat), .int .i64 ((lastT R).2 : Nat)] 33)).heap[w4.heap.size]? = some (.cells #[.int .i64 ((lastT R).1 : Nat), .int .i64 ((lastT R).2 : Nat)] 33 (0, 0)) := heap_alloc_last w4 _
        have HT5 : Hid (Tops 3 .i64 (w4.alloc (.cells #[.int .i64 ((lastT R).1 : Nat), .int .i64 ((lastT R).2 : Nat)] 33)) mb s 0 (cnt (gb l) s)) := Lib.hid (by obtain ⟨DD, h1, h2⟩ := HT4.out; exact ⟨DD, h1.alloc _, h2⟩)
        have HF5 := Lib.hid (HF4.out.below hb5)
        have HB5 := Lib.hid (below_then HB4.out hb5)
        have HTB : Hid (w4.heap.size < (w4.alloc (.cells #[.int .i64 ((lastT R).1 : Nat), .int .i64 ((lastT R).2 : Nat)] 33)).heap.size) := Lib.hid (by simp)
        revert hr5 HT5 HF5 HB5 HTB
        clear hb5 HT4 HF4 HB4 HT HF HB
        generalize w4.alloc (.cells #[.int .i64 ((lastT R).1 : Nat), .int .i64 ((lastT R).2 : Nat)] 33) = w5
        generalize w4.heap.size = tb
        intro hr5 HT5 HF5 HB5 HTB
        have HBS := Lib.hid (H.out.mono HB5.out)
        obtain ⟨b, off, hab, hbl, c0⟩ := HBS.out.at' s hlt
        subst hab
        have hcc : ∀ i, i < len → w5.cell? ⟨b, off + i, none⟩ = some (.int .u8 (gb l i)) := fun i hi => by
          obtain ⟨b', off', e, _, c⟩ := HBS.out.at' i hi
          cases e; exact c
        have c1 := hcc (s + 1) (by omega)
        have c2 := hcc (s + 2) (by omega)
        have k1 : IntKind.i64.wrap ((s : Int) + 1) = ((s + 1 : Nat) : Int) := by rw [IntWalk.i64_in _ ⟨by omega, by omega⟩]; omega
        have k2 : IntKind.i64.wrap ((s : Int) + 2) = ((s + 2 : Nat) : Int) := by rw [IntWalk.i64_in _ ⟨by omega, by omega⟩]; omega
        have i0 : (0 : Int) ≤ (s : Int) := by omega
        have i1 : (0 : Int) ≤ ((s + 1 : Nat) : Int) := by omega
        have i2 : (0 : Int) ≤ ((s + 2 : Nat) : Int) := by omega
        have j0 : (s : Int) < (len : Int) := by omega
        have j1 : ((s + 1 : Nat) : Int) < (len : Int) := by omega
        have j2 : ((s + 2 : Nat) : Int) < (len : Int) := by omega
        have HTRI : Hid (tri (gb l) s = (gb l s, gb l (s + 1), gb l (s + 2))) := Lib.hid rfl
        clear hcc
        go_region
        have hb6 : Below w5.heap.size w5 (w5.alloc (.cells #[.int .u8 (gb l s : Int), .int .u8 (gb l (s + 1) : Int), .int .u8 (gb l (s + 2) : Int)] 46)).drew := (below_alloc w5 _).drew
        have hk6 : ((w5.alloc (.cells #[.int .u8 (gb l s : Int), .int .u8 (gb l (s + 1) : Int), .int .u8 (gb l (s + 2) : Int)] 46)).drew).heap[w5.heap.size]? = some (.cells #[.int .u8 (gb l s : Int), .int .u8 (gb l (s + 1) : Int), .int .u8 (gb l (s + 2) : Int)] 46 (0, 0)) := heap_alloc_last w5 _
        have HT6 : Hid (Tops 3 .i64 ((w5.alloc (.cells #[.int .u8 (gb l s : Int), .int .u8 (gb l (s + 1) : Int), .int .u8 (gb l (s + 2) : Int)] 46)).drew) mb s 0 (cnt (gb l) s)) := Lib.hid (by obtain ⟨DD, h1, h2⟩ := HT5.out; exact ⟨DD, (h1.alloc _).drew, h2⟩)
        have HF6 := Lib.hid (HF5.out.below hb6)
        have HB6 := Lib.hid (below_then HB5.out hb6)
        have hr6 := (hb6.block tb HTB.out).trans hr5
        have HKB : Hid (w5.heap.size < ((w5.alloc (.cells #[.int .u8 (gb l s : Int), .int .u8 (gb l (s + 1) : Int), .int .u8 (gb l (s + 2) : Int)] 46)).drew).heap.size ∧ tb < w5.heap.size) := Lib.hid ⟨by simp [World.drew], HTB.out⟩
        revert hk6 HT6 HF6 HB6 hr6 HKB
        clear hb6 HT5 HF5 HB5 HTB hr5 c0 c1 c2 hbl HBS k1 k2 i0 i1 i2 j0 j1 j2
        generalize (w5.alloc (.cells #[.int .u8 (gb l s : Int), .int .u8 (gb l (s + 1) : Int), .int .u8 (gb l (s + 2) : Int)] 46)).drew = w6
        generalize w5.heap.size = kb
        intro hk6 HT6 HF6 HB6 hr6 HKB
        have hK8 := tri_lt l s
        have HLK : Hid (∀ X, (∃ m, Tops 3 .i64 X mb m 0 (cnt (gb l) s)) → (Instr.lookup 45 (.map (some mb)) (kv (tri (gb l) s)) false).run Tryd.prog X = .ok (.int .i64 (cnt (gb l) s (tri (gb l) s))) X) := Lib.hid (fun X hX => by
          obtain ⟨_, DD, h1, h2⟩ := hX
          obtain ⟨c, hrun, hat, _⟩ := h1.lookup_int key_law Tryd.underlying45 Tryd.underlying3 (by kernel_rfl) (key_is _ hK8)
          rw [hrun]
          have h3 := h2 _ hK8
          cases hh : Maps.has DD (kl (tri (gb l) s)) with
          | true =>
            have := h3.1 hh
            rw [hat] at this
            simp only [DataW.lit.injEq, Lit.int.injEq, true_and] at this
            rw [this]
          | false =>
            have e1 := h3.2 hh
            have := Maps.atKey_of_not_has hh (.lit (.int .i64 0))
            rw [hat] at this
            simp only [DataW.lit.injEq, Lit.int.injEq, true_and] at this
            rw [this, e1])
        have hlk6 := HLK.out w6 ⟨_, HT6.out⟩
        rw [HTRI.out] at hlk6 hfi
        unfold kv at hlk6
        simp only at hlk6
        have e0 : w6.cell? ⟨kb, 0, none⟩ = some (.int .u8 (gb l s : Int)) := by rw [cell_of_row _ _ _ _ _ (0, 0) hk6]; rfl
        have e1 : w6.cell? ⟨kb, 1, none⟩ = some (.int .u8 (gb l (s + 1) : Int)) := by rw [cell_of_row _ _ _ _ _ (0, 0) hk6]; rfl
        have e2 : w6.cell? ⟨kb, 2, none⟩ = some (.int .u8 (gb l (s + 2) : Int)) := by rw [cell_of_row _ _ _ _ _ (0, 0) hk6]; rfl
        have t0 : w6.cell? ⟨tb, 0, none⟩ = some (.int .i64 ((lastT R).1 : Nat)) := by rw [cell_of_row _ _ _ _ _ (0, 0) hr6]; rfl
        have t1 : w6.cell? ⟨tb, 1, none⟩ = some (.int .i64 ((lastT R).2 : Nat)) := by rw [cell_of_row _ _ _ _ _ (0, 0) hr6]; rfl
        have hci := cnt_in (gb l) (tri (gb l) s) s
        rw [HTRI.out] at hci
        obtain ⟨c, hcc⟩ : ∃ c : Nat, cnt (gb l) s (gb l s, gb l (s + 1), gb l (s + 2)) = (c : Int) := ⟨_, (Int.toNat_of_nonneg hci.1).symm⟩
        rw [hcc] at hlk6 hfi hci
        have HCC := Lib.hid hcc
        clear hcc
        rcases HFO.out with ⟨p1, p2⟩ | ⟨p1, p2, p3, p4, p5, p6⟩
        · rw [p2] at t0 t1 ⊢
          obtain rfl : c = 0 := by omega
          have hlk6' : (Instr.lookup 45 (.map (some mb)) (.agg #[.int .u8 (gb l s : Int), .int .u8 (gb l (s + 1) : Int), .int .u8 (gb l (s + 2) : Int)]) false).run Tryd.prog w6 = .ok (.int .i64 0) w6 := hlk6
          clear hlk6
          clear p2 hr6
          go_wp2_with fail
          obtain ⟨v0, st, X1, X3, u1, u2, u3, u4, u5⟩ := bump (X := w6.drew) (c := 0) (by obtain ⟨DD, h1, h2⟩ := HT6.out; exact ⟨DD, h1.drew, h2⟩) hK8 (by omega) (by rw [HTRI.out, HCC.out]) (by omega)
          rw [HTRI.out] at u1
          unfold kv at u1
          simp only at u1
          have hlk7 := HLK.out w6.drew (by obtain ⟨DD, h1, h2⟩ := HT6.out; exact ⟨_, DD, h1.drew, h2⟩)
          rw [HTRI.out, HCC.out] at hlk7
          unfold kv at hlk7
          simp only at hlk7
          have hlk8 : (Instr.lookup 45 (.map (some mb)) (kv (tri (gb l) s)) false).run Tryd.prog X1 = .ok (.int .i64 (cnt (gb l) s (tri (gb l) s))) X1 := HLK.out X1 ⟨_, u5⟩
          rw [HTRI.out, HCC.out] at hlk8
          unfold kv at hlk8
          simp only at hlk8
          have HNX : Hid (Tops 3 .i64 X3 mb (s + 1) 0 (cnt (gb l) (s + 1)) ∧ Fd X3 gf eb w1.heap.size len l len v Rs ∧ Below w.heap.size w X3) := Lib.hid (by
            have hch : Ch w6.drew X3 (fun k => k = mb) := ch_grown u4
            refine ⟨?_, fd_ch (w := w6.drew) (HF6.out.below (Below.drew (Below.refl _ _))) hch HMB.out.1 HMB.out.2.1 HMB.out.2.2.1, (HB6.out.drew).grown u4 (HB6.out.drew).size (fun r e => by cases e; exact HMB.out.2.2.2)⟩
            obtain ⟨DD, h1, h2⟩ := u3
            refine ⟨DD, h1, ?_⟩
            have e : cnt (gb l) (s + 1) = (fun j => if j = tri (gb l) s then ((0 + 1 : Nat) : Int) else cnt (gb l) s j) := by
              funext j
              simp only [cnt]
              by_cases hj : j = tri (gb l) s
              · subst hj
                rw [if_pos rfl, if_pos rfl, HTRI.out, HCC.out]; omega
              · rw [if_neg hj, if_neg (fun h => hj h.symm)]; omega
            rw [e]; exact h2)
          have u2' : (Instr.entryStore 45 (.map (some mb)) (.int .i64 (st : Nat)) (.int .i64 1)).run Tryd.prog X1 = .ok () X3 := u2
          have hlk7' : (Instr.lookup 45 (.map (some mb)) (.agg #[.int .u8 (gb l s : Int), .int .u8 (gb l (s + 1) : Int), .int .u8 (gb l (s + 2) : Int)]) false).run Tryd.prog w6.drew = .ok (.int .i64 0) w6.drew := hlk7
          have hlk8' : (Instr.lookup 45 (.map (some mb)) (.agg #[.int .u8 (gb l s : Int), .int .u8 (gb l (s + 1) : Int), .int .u8 (gb l (s + 2) : Int)]) false).run Tryd.prog X1 = .ok (.int .i64 0) X1 := hlk8
          clear u2 u3 u4 u5 hlk7 hlk8 hlk6'
          go_region
          go_wp2
          go_roundw
          case rel => exact ⟨s + 1, s + 1, by omega, by go_num, by omega, fun _ => rfl, Lib.hid HNX.out.1, Lib.hid HNX.out.2.1, Lib.hid HNX.out.2.2⟩
          case measure => simp [intOf]; omega
        · have d3 : decide ((0 : Int) < (c : Int)) = true := by simp; omega
          have d3' : decide (0 < c) = true := by simp; omega
          obtain ⟨q, hq⟩ : ∃ q, lastT R = q := ⟨_, rfl⟩
          rw [hq] at p2 p3 p4 p5 p6 t0 t1 hr6 ⊢
          clear hq HFO
          obtain ⟨q1, q2⟩ := q
          simp only at p2 p3 p4 p5 p6 t0 t1 hr6 ⊢
          have d4 : decide (0 < q1) = true := by simp; omega
          have wfs : (Lit.int .i64 ((s : Nat) : Int)).wf = true := by simp only [Lit.wf, IntKind.min, IntKind.max, IntKind.signed, IntKind.bits, Bool.and_eq_true, decide_eq_true_eq, if_true]; simp; omega
          have wf1 : (Lit.int .i64 ((q1 : Nat) : Int)).wf = true := by simp only [Lit.wf, IntKind.min, IntKind.max, IntKind.signed, IntKind.bits, Bool.and_eq_true, decide_eq_true_eq, if_true]; simp; omega
          have wf1' : (Lit.int .i64 ((q1 + 1 : Nat) : Int)).wf = true := by simp only [Lit.wf, IntKind.min, IntKind.max, IntKind.signed, IntKind.bits, Bool.and_eq_true, decide_eq_true_eq, if_true]; simp; omega
          have wf2 : (Lit.int .i64 ((q2 : Nat) : Int)).wf = true := by simp only [Lit.wf, IntKind.min, IntKind.max, IntKind.signed, IntKind.bits, Bool.and_eq_true, decide_eq_true_eq, if_true]; simp; omega
          have HWF := Lib.hid (And.intro wfs (And.intro wf1' wf2))
          have HV := Lib.hid (verify_any _ len cap l s q1 q2 w6 (H.out.mono HB6.out) wfs wf1 wf2)
          rw [p5] at HV
          clear wfs wf1 wf1' wf2
          go_wp2_with fail
          refine HV.out.mono ?_
          rintro e w7 ⟨rfl, hb7⟩
          have HT7 : Hid (Tops 3 .i64 w7 mb s 0 (cnt (gb l) s)) := Lib.hid (by obtain ⟨DD, h1, h2⟩ := HT6.out; exact ⟨DD, h1.kept (Bk.grown_of_below' hb7) (by simp), h2⟩)
          have HF7 := Lib.hid (HF6.out.below hb7)
          have HB7 := Lib.hid (below_then HB6.out hb7)
          have hr7 := (hb7.block tb (by have := HKB.out; omega)).trans hr6
          have hk7 := (hb7.block kb HKB.out.1).trans hk6
          have t0 : w7.cell? ⟨tb, 0, none⟩ = some (.int .i64 (q1 : Nat)) := by rw [cell_of_row _ _ _ _ _ (0, 0) hr7]; rfl
          have t1 : w7.cell? ⟨tb, 1, none⟩ = some (.int .i64 (q2 : Nat)) := by rw [cell_of_row _ _ _ _ _ (0, 0) hr7]; rfl
          have e0 : w7.cell? ⟨kb, 0, none⟩ = some (.int .u8 (gb l s : Int)) := by rw [cell_of_row _ _ _ _ _ (0, 0) hk7]; rfl
          have e1 : w7.cell? ⟨kb, 1, none⟩ = some (.int .u8 (gb l (s + 1) : Int)) := by rw [cell_of_row _ _ _ _ _ (0, 0) hk7]; rfl
          have e2 : w7.cell? ⟨kb, 2, none⟩ = some (.int .u8 (gb l (s + 2) : Int)) := by rw [cell_of_row _ _ _ _ _ (0, 0) hk7]; rfl
          have HKL : Hid (kb < w7.heap.size) := Lib.hid (Nat.lt_of_lt_of_le HKB.out.1 hb7.size)
          clear hlk6 hb7 hr7 hr6 hk6 HV HT6 HF6 HB6
          by_cases h258 : q1 < 258
          · have d5 : decide ((q1 : Int) < 258) = true := by simp; omega
            have HV := Lib.hid (verify_any _ len cap l s ((q1 + 1 : Nat) : Int) q2 w7 (H.out.mono HB7.out) HWF.out.1 HWF.out.2.1 HWF.out.2.2)
            rw [p6, Int.natCast_add] at HV
            go_wp2_with fail
            refine HV.out.mono ?_
            rintro e w8 ⟨rfl, hb8⟩
            have HT8 : Hid (Tops 3 .i64 w8 mb s 0 (cnt (gb l) s)) := Lib.hid (by obtain ⟨DD, h1, h2⟩ := HT7.out; exact ⟨DD, h1.kept (Bk.grown_of_below' hb8) (by simp), h2⟩)
            have HF8 := Lib.hid (HF7.out.below hb8)
            have HB8 := Lib.hid (below_then HB7.out hb8)
            have hk8 := (hb8.block kb HKL.out).trans hk7
            have e0 : w8.cell? ⟨kb, 0, none⟩ = some (.int .u8 (gb l s : Int)) := by rw [cell_of_row _ _ _ _ _ (0, 0) hk8]; rfl
            have e1 : w8.cell? ⟨kb, 1, none⟩ = some (.int .u8 (gb l (s + 1) : Int)) := by rw [cell_of_row _ _ _ _ _ (0, 0) hk8]; rfl
            have e2 : w8.cell? ⟨kb, 2, none⟩ = some (.int .u8 (gb l (s + 2) : Int)) := by rw [cell_of_row _ _ _ _ _ (0, 0) hk8]; rfl
            clear hb8 HV hk8 hk7 HT7 HF7 HB7 t0 t1
            go_wp2_with fail
            obtain ⟨v0, st, X1, X3, u1, u2, u3, u4, u5⟩ := bump (X := w8.drew) (c := c) (by obtain ⟨DD, h1, h2⟩ := HT8.out; exact ⟨DD, h1.drew, h2⟩) hK8 (by omega) (by rw [HTRI.out, HCC.out]) (by omega)
            rw [HTRI.out] at u1
            unfold kv at u1
            simp only at u1
            have hlk7 := HLK.out w8.drew (by obtain ⟨DD, h1, h2⟩ := HT8.out; exact ⟨_, DD, h1.drew, h2⟩)
            rw [HTRI.out, HCC.out] at hlk7
            unfold kv at hlk7
            simp only at hlk7
            have hlk8 : (Instr.lookup 45 (.map (some mb)) (kv (tri (gb l) s)) false).run Tryd.prog X1 = .ok (.int .i64 (cnt (gb l) s (tri (gb l) s))) X1 := HLK.out X1 ⟨_, u5⟩
            rw [HTRI.out, HCC.out] at hlk8
            unfold kv at hlk8
            simp only at hlk8
            have HNX : Hid (Tops 3 .i64 X3 mb (s + 1) 0 (cnt (gb l) (s + 1)) ∧ Fd X3 gf eb w1.heap.size len l len v Rs ∧ Below w.heap.size w X3) := Lib.hid (by
              have hch : Ch w8.drew X3 (fun k => k = mb) := ch_grown u4
              refine ⟨?_, fd_ch (w := w8.drew) (HF8.out.below (Below.drew (Below.refl _ _))) hch HMB.out.1 HMB.out.2.1 HMB.out.2.2.1, (HB8.out.drew).grown u4 (HB8.out.drew).size (fun r e => by cases e; exact HMB.out.2.2.2)⟩
              obtain ⟨DD, h1, h2⟩ := u3
              refine ⟨DD, h1, ?_⟩
              have e : cnt (gb l) (s + 1) = (fun j => if j = tri (gb l) s then ((c + 1 : Nat) : Int) else cnt (gb l) s j) := by
                funext j
                simp only [cnt]
                by_cases hj : j = tri (gb l) s
                · subst hj
                  rw [if_pos rfl, if_pos rfl, HTRI.out, HCC.out]; omega
                · rw [if_neg hj, if_neg (fun h => hj h.symm)]; omega
              rw [e]; exact h2)
            clear u3 u4 u5
            go_region
            go_wp2
            go_roundw
            case rel => exact ⟨s + 1, s + 1, by omega, by go_num, by omega, fun _ => rfl, Lib.hid HNX.out.1, Lib.hid HNX.out.2.1, Lib.hid HNX.out.2.2⟩
            case measure => simp [intOf]; omega
          · have d5 : decide ((q1 : Int) < 258) = false := by simp; omega
            go_wp2_with fail
            obtain ⟨v0, st, X1, X3, u1, u2, u3, u4, u5⟩ := bump (X := w7.drew) (c := c) (by obtain ⟨DD, h1, h2⟩ := HT7.out; exact ⟨DD, h1.drew, h2⟩) hK8 (by omega) (by rw [HTRI.out, HCC.out]) (by omega)
            rw [HTRI.out] at u1
            unfold kv at u1
            simp only at u1
            have hlk7 := HLK.out w7.drew (by obtain ⟨DD, h1, h2⟩ := HT7.out; exact ⟨_, DD, h1.drew, h2⟩)
            rw [HTRI.out, HCC.out] at hlk7
            unfold kv at hlk7
            simp only at hlk7
            have hlk8 : (Instr.lookup 45 (.map (some mb)) (kv (tri (gb l) s)) false).run Tryd.prog X1 = .ok (.int .i64 (cnt (gb l) s (tri (gb l) s))) X1 := HLK.out X1 ⟨_, u5⟩
            rw [HTRI.out, HCC.out] at hlk8
            unfold kv at hlk8
            simp only at hlk8
            have HNX : Hid (Tops 3 .i64 X3 mb (s + 1) 0 (cnt (gb l) (s + 1)) ∧ Fd X3 gf eb w1.heap.size len l len v Rs ∧ Below w.heap.size w X3) := Lib.hid (by
              have hch : Ch w7.drew X3 (fun k => k = mb) := ch_grown u4
              refine ⟨?_, fd_ch (w := w7.drew) (HF7.out.below (Below.drew (Below.refl _ _))) hch HMB.out.1 HMB.out.2.1 HMB.out.2.2.1, (HB7.out.drew).grown u4 (HB7.out.drew).size (fun r e => by cases e; exact HMB.out.2.2.2)⟩
              obtain ⟨DD, h1, h2⟩ := u3
              refine ⟨DD, h1, ?_⟩
              have e : cnt (gb l) (s + 1) = (fun j => if j = tri (gb l) s then ((c + 1 : Nat) : Int) else cnt (gb l) s j) := by
                funext j
                simp only [cnt]
                by_cases hj : j = tri (gb l) s
                · subst hj
                  rw [if_pos rfl, if_pos rfl, HTRI.out, HCC.out]; omega
                · rw [if_neg hj, if_neg (fun h => hj h.symm)]; omega
              rw [e]; exact h2)
            clear u3 u4 u5
            go_region
            go_wp2
            go_roundw
            case rel => exact ⟨s + 1, s + 1, by omega, by go_num, by omega, fun _ => rfl, Lib.hid HNX.out.1, Lib.hid HNX.out.2.1, Lib.hid HNX.out.2.2⟩
            case measure => simp [intOf]; omega
    · obtain rfl : t = len := by omega
      go_wp2
      go_ret
      exact ⟨rfl, HB.out⟩
set_option maxRecDepth 100000 in
theorem lifted (os : Os) (started : os.Started) (H : Type) (enc : TypeId × Value → H) :
    ReturnsInHanded {} Tryd.checked os 5 .any (fun w args => (Rows.matchFoundSpec.pre enc Tryd.prog Tryd.f5 Rows.matchFoundRow.domain false w args ∧ laidMetH Tryd.prog [("math/bits.deBruijn64tab", Rows.laid_math_bits_deBruijn64tab)] w) ∧ sizedMet enc Tryd.prog Tryd.f5 (OpenSpec.ofChange Rows.matchFoundSpec) false w args)
      (Rows.matchFoundSpec.post enc Tryd.prog Tryd.f5 false true false false) := by
  refine returnsInHanded_of_change_and (C := Tryd.checked) (X := fun w _ => laidMetH Tryd.prog [("math/bits.deBruijn64tab", Rows.laid_math_bits_deBruijn64tab)] w) (fun _ _ _ hh h => h.of_heap hh) own started (by kernel_rfl) Tryd.func5
    (ChangeSpec.witness_shaped (enc := enc) (C := Tryd.checked) (os := os) (X := fun w _ => laidMetH Tryd.prog [("math/bits.deBruijn64tab", Rows.laid_math_bits_deBruijn64tab)] w) false (World.laidAll Tryd.prog os [("math/bits.deBruijn64tab", Rows.laid_math_bits_deBruijn64tab)]) #[.slice none 0 0] 8 (World.laidAll_os _ _ _)
      (World.shaped_of_ZipB (by kernel_rfl) (by kernel_rfl)) (by kernel_rfl) (by kernel_rfl) (by kernel_rfl)
      (by rw [MakeChecks.laidMetH_plain _ _ _ (by kernel_rfl)]; exact laidMet_laidAll _ (by kernel_rfl) (by kernel_rfl))) ?_
  intro W base args ds gs before hval0 hW _ hsz0 hL _
  have hval : ∀ (j : Nat) t v, Tryd.f5.params[j]? = some t → args[j]? = some v → Value.okWide Tryd.prog W .any base t v := hval0
  have hsz : (DataW.weightsEach Tryd.prog (Tryd.f5.params.toList ++ Rows.matchFoundSpec.plain.varTypes Tryd.prog) (ds ++ gs)).all (· ≤ reachBytes) = true := hsz0
  have hW' := hW
  obtain ⟨p, q, hA0, hV, rfl, hfz, hnd⟩ := hW
  have hA : DataW.TrodAll enc Tryd.prog W 0 (fun _ => true) true Tryd.f5.params.toList args.toList ds p := hA0
  rw [Tryd.params5] at hA hval hsz
  obtain ⟨v0, vs0, d0, ds0, p0, q0, hargs, rfl, rfl, h0, r0⟩ := trodAll_cons hA
  obtain ⟨rfl, rfl, rfl⟩ := trodAll_nil r0
  obtain rfl : args = #[v0] := by cases args; simp_all
  obtain ⟨rfl, rfl⟩ := trodVars_none hV
  clear hsz0
  obtain ⟨a0, len0, cap0, rfl⟩ := okWide_slice Tryd.underlying22 (hval 0 22 v0 rfl rfl)
  have k0 := h0
  have lt0 : ∀ x ∈ p0, x.block < W.heap.size := by obtain ⟨m, hm⟩ := k0; exact DataW.trod_lt m _ _ _ hm
  obtain ⟨l0, w0, c0⟩ := open_bs Tryd.underlying22 Tryd.underlying5 (by kernel_rfl) (by kernel_rfl) h0 hsz 0 rfl rfl
  clear hA0 hval0 hsz
  refine (walk a0 len0 cap0 l0 W w0 c0 hL).mono fun e W' ⟨he, bel⟩ => ?_
  subst he
  exact ⟨_, rfl, _, _, _, [], _, [], hW', trodAll_mk1 (shut_bool Tryd.underlying4 _), (trodAll_cons_mk (Below.trod laidOut (by kernel_rfl) (of_decide_eq_true (by kernel_rfl)) k0 bel lt0) trodAll_mk0), rfl, bel.frame _, fun h => by cases h⟩

theorem proved : Rows.MatchFoundSaid :=
  OpenClaim.holds_of_wide 5 Tryd.f5 rfl rfl rfl rfl rfl rfl rfl ⟨rfl, rfl, rfl, rfl, rfl⟩ rfl rfl rfl rfl rfl (by kernel_rfl) Tryd.func5 (by kernel_rfl)
    (of_decide_eq_true (by kernel_rfl)) (by unfold Func.isWrapper; first | (rw [if_pos (by decide +kernel)]; kernel_rfl) | (rw [if_neg (by decide +kernel)]; exact ⟨rfl, rfl⟩))
    (fun os started H enc _ => lifted os started H enc)
theorem card : Rows.MatchFoundCardSaid :=
  Claim7.holds_tied_plain_at .later [] [.data] true (true, "9c3b2abeee23651ab0fc64ad9913698d22e09bcf74f6584c2c8b2754bc07b9cc") true proved (fun _ h => by cases h) (by kernel_rfl) (fun _ h => by cases h) matchFound_row_tie rfl ⟨rfl, rfl⟩ (by kernel_rfl) rfl
    (fun f fn hf hfn => by
      obtain rfl : f = 5 := Option.some.inj ((show Tryd.prog.funcNamed "burnish/burnishlaw08.MatchFound" = some 5 by kernel_rfl).symm.trans hf) |>.symm
      obtain rfl : fn = Tryd.f5 := (Option.some.inj (Tryd.func5.symm.trans hfn)).symm
      exact ⟨by kernel_rfl, fun j t ht => by
        rw [Tryd.params5] at ht
        have hm : t ∈ [22] := by simpa using Array.mem_of_getElem? ht
        have hall : ([22].all fun u => !Tryd.prog.wantsStandIn u) = true := by kernel_rfl
        exact (show Tryd.prog.wantsStandIn t = false by simpa using List.all_eq_true.1 hall t hm)⟩)
    (by kernel_rfl)
#print axioms proved
#print axioms card
end Go.Proofs.YtedncnaeojomcaaDoor.MatchFound
