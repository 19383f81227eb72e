/- slices.Grow at nil, and slices.Concat of any number of lists: their contracts. (*reader).prepareFixed: its contract. (*reader).block at the kinds 0, 1 and 3: its contract. The readers of inflate never go back; and unpack's own reader. Blocks of kind 2, as readers of bits. -/
import Derived.Test.YtfgpmccmalddjaaDoorZ16
import Derived.Lib.AppendZeros
set_option linter.unusedSimpArgs false
set_option linter.unusedVariables false
section
namespace Go.Proofs.YtfgpmccmalddjaaDoor
open Go.RowKit

def GrowPost (w : World) (e : Ending) (w' : World) : Prop :=
  ∃ cap, e = .returned (.slice (some ⟨w.heap.size, 0, none⟩) 0 cap) ∧ w'.ownsRow w.heap.size 3 1 (.slice (some ⟨w.heap.size, 0, none⟩) 0 cap) 0 [] ∧ Below w.heap.size w w'
set_option maxHeartbeats 2000000 in
set_option maxRecDepth 100000 in
theorem grow_any (n : Nat) (w : World) (h1 : 1 ≤ n) (hn : n ≤ 1000000) :
    Calls Tryd.prog 106 #[.slice none 0 0, .int .i64 (n : Nat)] w (GrowPost w) := by
  obtain ⟨i0, hi, hz0, hz1, hz2⟩ := info_parts tyI.info
  have happ := fun ty => Lib.run_append_nil_zeros (P := Tryd.prog) w 50 3 ty 3 i0 (.int .i64 0) .i64 .i64 tyI.ht (by kernel_rfl) hi hz0 n (by omega) (by omega) (by omega) (by rw [hz2]; omega)
  have hge := grownCap_ge w n 0 3
  have hle := grownCap_le_maxLen w n 0 3 (by unfold maxLen; omega)
  generalize grownCap w n 0 3 = c at *
  obtain ⟨cs, hcs⟩ : ∃ cs, Builtin.zeroCells (Value.int .i64 0).cells n ++ Builtin.zeroCells (Value.int .i64 0).cells (c - n) = cs := ⟨_, rfl⟩
  have hsz : cs.size = c := by
    rw [← hcs, Array.size_append, size_zeroCells, size_zeroCells]
    have : (Value.int .i64 0).cells.size = 1 := rfl
    rw [this]; omega
  rw [hcs] at happ
  clear hcs
  have d0 : decide ((n : Int) < 0) = false := by simp
  have d1 : decide (0 < (n : Int)) = true := by simp; omega
  go_enter Tryd.func106, Tryd.ntmps106
  go_wp2_with (at_builtin; refine Lib.wpList_append_run _ rfl _ _ _ _ rfl _ _ rfl rfl _ _ (happ _) ?_)
  go_wp2
  go_ret
  refine ⟨c, rfl, ⟨rfl, .inr ⟨w.heap.size, c, cs, rfl, Nat.le_refl _, heap_alloc_last w.drew _, by omega, hle, by rw [hsz, Nat.mul_one], by simp⟩⟩, ?_⟩
  exact below_then (below_alloc w (.cells cs 3)) (dn_is _ 1)
def ConcatPost (w : World) (n : Nat) (l : List Int) (e : Ending) (w' : World) : Prop :=
  ∃ v, e = .returned v ∧ w'.ownsRow w.heap.size 3 1 v n (ivs l) ∧ Below w.heap.size w w'
/-- A part: where it lies, and what it is. -/
abbrev Cp := Option Addr × Nat × Nat × List Int
def cat (ps : List Cp) (k : Nat) : List Int := (ps.take k).flatMap fun c => c.2.2.2
theorem cat_succ {ps : List Cp} {k : Nat} {c : Cp} (h : ps[k]? = some c) : cat ps (k + 1) = cat ps k ++ c.2.2.2 := by
  obtain ⟨hk, rfl⟩ := List.getElem?_eq_some_iff.1 h
  unfold cat
  rw [List.take_succ_eq_append_getElem hk, List.flatMap_append]
  simp
theorem cat_le (ps : List Cp) (k : Nat) : (cat ps k).length ≤ (cat ps ps.length).length := by
  have e : cat ps ps.length = cat ps k ++ (ps.drop k).flatMap fun c => c.2.2.2 := by
    unfold cat
    rw [List.take_length, ← List.flatMap_append, List.take_append_drop]
  rw [e, List.length_append]; omega
/-- The parts, as they lie in a slice of slices. -/
def CatParts (w : World) (g : Nat) (ps : List Cp) : Prop := ∀ k a la ca l, ps[k]? = some (a, la, ca, l) → w.cell? ⟨g, k, none⟩ = some (.slice a la ca) ∧ Is .i64 w a la ca l
set_option maxHeartbeats 2000000 in
set_option maxRecDepth 100000 in
theorem concat_all (g n : Nat) (ps : List Cp) (w : World) (hg : g < w.heap.size) (hpl : ps.length = n) (hP : CatParts w g ps) (hn0 : n ≤ 1000) (h1 : 1 ≤ (cat ps n).length) (hn : (cat ps n).length ≤ 1000000) :
    Calls Tryd.prog 94 #[.slice (some ⟨g, 0, none⟩) n n] w (ConcatPost w (cat ps n).length (cat ps n)) := by
  have HP := Lib.hid hP
  have HL : Hid (∀ k, (cat ps k).length ≤ (cat ps n).length) := Lib.hid (fun k => by rw [← hpl]; exact cat_le ps k)
  have HN := Lib.hid hpl
  have HB := Lib.hid hn
  clear hP hpl
  go_enter Tryd.func94, Tryd.ntmps94
  go_wp2
  go_loop [3, 11] (fun s i => ∃ k m : Nat, k ≤ n ∧ i = .int .i64 (k : Nat) ∧ s = .int .i64 (m : Nat) ∧ Hid (m = (cat ps k).length)) (fun _ i => n - (intOf i).toNat)
  case atStart => exact ⟨0, 0, by omega, rfl, rfl, Lib.hid rfl⟩
  case round =>
    obtain ⟨k, m, hk, rfl, rfl, HM⟩ := hrel
    by_cases hlt : k < n
    · obtain ⟨a, la, ca, l, hps⟩ : ∃ a la ca l, ps[k]? = some (a, la, ca, l) := ⟨_, _, _, _, List.getElem?_eq_getElem (by rw [HN.out]; exact hlt)⟩
      obtain ⟨c0, hI⟩ := HP.out k a la ca l hps
      have hs := cat_succ hps
      have hml : m + la = (cat ps (k + 1)).length := by rw [hs, List.length_append, hI.hlen, HM.out]
      have hmb : m + la ≤ 1000000 := by have := HL.out (k + 1); omega
      have HM2 := Lib.hid hml
      have c1 : w.cell? ⟨g, 0 + k, none⟩ = some (.slice a la ca) := by rw [Nat.zero_add]; exact c0
      have d0 : decide (((m : Nat) : Int) + ((la : Nat) : Int) < 0) = false := by simp; omega
      clear hps hI hs hml
      go_wp2
      go_round
      case rel => exact ⟨k + 1, m + la, by omega, by go_num, by go_num, HM2⟩
      case measure => simp [intOf]; omega
    · obtain rfl : k = n := by omega
      have hm1 : 1 ≤ m ∧ m ≤ 1000000 := by have := HM.out; omega
      clear h1 hn
      go_wp2_with fail
      refine (grow_any m w hm1.1 hm1.2).mono ?_
      rintro e w1 ⟨cap, rfl, own1, hb1⟩
      have HX : Hid (w1.ownsRow w.heap.size 3 1 (.slice (some ⟨w.heap.size, 0, none⟩) 0 cap) 0 (ivs (cat ps 0)) ∧ Below w.heap.size w w1 ∧ 0 = (cat ps 0).length) := Lib.hid ⟨own1, hb1, rfl⟩
      clear own1 hb1
      go_wp2
      go_loopw [6, 27] (fun v i wr => ∃ j q : Nat, j ≤ k ∧ i = .int .i64 (j : Nat) ∧ Hid (wr.ownsRow w.heap.size 3 1 v q (ivs (cat ps j)) ∧ Below w.heap.size w wr ∧ q = (cat ps j).length)) (fun _ i _ => k - (intOf i).toNat)
      case atStart => exact ⟨0, 0, by omega, rfl, HX⟩
      case round =>
        obtain ⟨j, q, hj, rfl, HO⟩ := hrel
        have hzr := HO.out.2.1.size
        by_cases hlt : j < k
        · obtain ⟨a, la, ca, l, hps⟩ : ∃ a la ca l, ps[j]? = some (a, la, ca, l) := ⟨_, _, _, _, List.getElem?_eq_getElem (by rw [HN.out]; exact hlt)⟩
          obtain ⟨c0, hI⟩ := HP.out j a la ca l hps
          have hs := cat_succ hps
          have hml : q + la = (cat ps (j + 1)).length := by rw [hs, List.length_append, hI.hlen, HO.out.2.2]
          have hmb : q + la ≤ 1000000 := by have := HL.out (j + 1); have := HB.out; omega
          have c2 : wr.cell? ⟨g, j, none⟩ = some (.slice a la ca) := (HO.out.2.1.cell (p := ⟨g, j, none⟩) hg).trans c0
          have c1 : wr.cell? ⟨g, 0 + j, none⟩ = some (.slice a la ca) := by rw [Nat.zero_add]; exact c2
          have HS := Lib.hid (hI.mono HO.out.2.1).src
          have HE := Lib.hid (And.intro hs hml)
          clear hps hI hs hml c0
          go_wp2_with (at_builtin; refine wpl_append tyI rfl _ _ rfl HO.out.1 HS.out rfl rfl (by omega) (by omega) (by omega) ?_)
          intro v' w' own' hg' _
          have hb' : Below w.heap.size w w' := HO.out.2.1.grown hg' hzr (fun q hq => (HO.out.1.lt q hq).1)
          rw [← ivs_append, ← HE.out.1] at own'
          have HK2 := Lib.hid (And.intro own' (And.intro hb' HE.out.2))
          clear own' hb' hg' HO c1 c2 HS HE
          go_wp2
          go_roundw
          case rel => exact ⟨j + 1, q + la, by omega, by go_num, HK2⟩
          case measure => simp [intOf]; omega
        · obtain rfl : j = k := by omega
          have HF : Hid (∀ v, wr.ownsRow w.heap.size 3 1 v q (ivs (cat ps j)) → ConcatPost w (cat ps j).length (cat ps j) (.returned v) wr) := Lib.hid (fun v h => ⟨v, rfl, by rw [← HO.out.2.2]; exact h, HO.out.2.1⟩)
          have HO1 := Lib.hid HO.out.1
          clear HO
          go_wp2
          go_ret
          exact HF.out _ HO1.out
end Go.Proofs.YtfgpmccmalddjaaDoor
end

section
namespace Go.Proofs.YtfgpmccmalddjaaDoor
open Go.RowKit
attribute [local go_sem] Oper.semAt_some

theorem bz_new {w w' : World} {l : List Int} {g : Nat} {fs : Nat → Int} {vs : Nat → Value} {wv : Value} {ws : List (Nat × Nat)} (hf : ∀ n, n < 17 → fs n = (Bk.fst (Bk.rowsL l) n : Nat)) (h : Bk.NB w' w.heap.size g fs vs wv (Bk.nx (Bk.rowsL l) 17 : Nat) (Bk.rowsL l) ws) : Bz w' (fun k => w.heap.size ≤ k ∧ k < w'.heap.size) g (Bk.rowsL l) :=
  ⟨w.heap.size, fs, vs, wv, ws, hf, h, ⟨h.hg, h.lt⟩, fun k hk => h.words.lt k hk, fun k ⟨n, hn, hk⟩ => (h.rows n hn).lt k hk⟩
theorem rep_step (w : World) (c : Int) (n : Nat) (hn : n ≤ 1000000) (hc : (Lit.int .i64 c).wf = true) :
    Calls Tryd.prog 91 #[.slice (some ⟨w.heap.size, 0, none⟩) 1 1, .int .i64 (n : Nat)] (w.alloc (.cells #[.int .i64 c] 3)) (fun e w' => ∃ a cap, e = .returned (.slice a n cap) ∧ Is .i64 w' a n cap (List.replicate n c) ∧ Below w.heap.size w w') := by
  have hb := below_alloc w (.cells #[.int .i64 c] 3)
  refine (repeat_any w.heap.size c n _ (by rw [cell_of_row _ _ _ _ _ (0, 0) (heap_alloc_last w _)]; rfl) (by simp) hn).mono ?_
  rintro e w' ⟨v, rfl, hown, hb2⟩
  obtain ⟨a, cap, rfl, hI⟩ := own_is hown (by intro m hm; rw [List.eq_of_mem_replicate hm]; exact hc)
  exact ⟨a, cap, rfl, hI, below_then hb hb2⟩
theorem Irx.fix {w : World} {D : Nat → Prop} {B gr gb p : Nat} {vb : Value} {bs : List UInt8} {cs : Array Value} {v vl p5 p6 : Value} {most : Nat} {ls : Bool} {s : Unp} (h : Irx w D B gr gb vb bs p cs v vl p5 p6 most ls s) (x y : Value) :
    Irx ((w.setCell ⟨gr, 5, none⟩ x).setCell ⟨gr, 6, none⟩ y) D B gr gb vb bs p ((cs.setIfInBounds 5 x).setIfInBounds 6 y) v vl x y most ls s ∧ Ch w ((w.setCell ⟨gr, 5, none⟩ x).setCell ⟨gr, 6, none⟩ y) (fun k => k = gr) := by
  have c : Ch w ((w.setCell ⟨gr, 5, none⟩ x).setCell ⟨gr, 6, none⟩ y) (fun k => k = gr) := ((Ch.refl w (fun k => k = gr)).set (p := ⟨gr, 5, none⟩) (.inl rfl) x).set (p := ⟨gr, 6, none⟩) (.inl rfl) y
  have hz := c.size
  have k5 := h.k5
  have k6 := h.k6
  have s5 : 5 < cs.size := (Array.getElem?_eq_some_iff.1 k5).1
  have s6 : 6 < cs.size := (Array.getElem?_eq_some_iff.1 k6).1
  have ge : ∀ j, j ≠ 5 → j ≠ 6 → ((cs.setIfInBounds 5 x).setIfInBounds 6 y)[j]? = cs[j]? := fun j h5 h6 => by
    rw [Array.getElem?_setIfInBounds_ne (by omega), Array.getElem?_setIfInBounds_ne (by omega)]
  refine ⟨⟨⟨heap_setCell_same _ gr 6 _ _ _ (heap_setCell_same w gr 5 _ _ _ h.ou.row), (ge _ (by omega) (by omega)).trans h.ou.k0, (ge _ (by omega) (by omega)).trans h.ou.k1, (ge _ (by omega) (by omega)).trans h.ou.k2, (ge _ (by omega) (by omega)).trans h.ou.k3, c.own h.ou.own (fun k hk e => h.ou.n1 k hk e), c.own h.ou.ol (fun k hk e => h.ou.n2 k hk e), h.ou.n1, h.ou.n2, h.ou.n3⟩, (ge _ (by omega) (by omega)).trans h.c0, h.rd.kept c (fun e => h.gg e.symm) (fun k hk e => (h.vb1 k hk).1 e), h.hp, h.hm, h.hl, h.ht, h.hbl, Nat.le_trans h.hB hz, h.gg, h.vb1, h.gb1, ?_, ?_, fun k hk => ⟨Nat.lt_of_lt_of_le (h.nd k hk).1 hz, (h.nd k hk).2⟩⟩, c⟩
  · rw [Array.getElem?_setIfInBounds_ne (by omega)]; simp [s5]
  · simp [s6]
theorem free_fixL : Cn.freeB fixL = true := by decide +kernel
theorem free_fixD : Cn.freeB fixD = true := by decide +kernel
theorem fix_concat (w : World) (a1 a2 a3 a4 : Option Addr) (c1 c2 c3 c4 : Nat) (I1 : Is .i64 w a1 144 c1 (List.replicate 144 8)) (I2 : Is .i64 w a2 112 c2 (List.replicate 112 9)) (I3 : Is .i64 w a3 24 c3 (List.replicate 24 7)) (I4 : Is .i64 w a4 8 c4 (List.replicate 8 8)) :
    Calls Tryd.prog 94 #[.slice (some ⟨w.heap.size, 0, none⟩) 4 4] (w.alloc (.cells #[.slice a1 144 c1, .slice a2 112 c2, .slice a3 24 c3, .slice a4 8 c4] 50)) (fun e w' => ∃ a cap, e = .returned (.slice a 288 cap) ∧ Is .i64 w' a 288 cap fixL ∧ Below w.heap.size w w') := by
  have hb := below_alloc w (.cells #[.slice a1 144 c1, .slice a2 112 c2, .slice a3 24 c3, .slice a4 8 c4] 50)
  have hrow := heap_alloc_last w (.cells #[.slice a1 144 c1, .slice a2 112 c2, .slice a3 24 c3, .slice a4 8 c4] 50)
  obtain ⟨ps, hps⟩ : ∃ ps : List Cp, ps = [(a1, 144, c1, List.replicate 144 8), (a2, 112, c2, List.replicate 112 9), (a3, 24, c3, List.replicate 24 7), (a4, 8, c4, List.replicate 8 8)] := ⟨_, rfl⟩
  have hcat : cat ps 4 = fixL := by
    subst hps
    unfold cat fixL
    simp only [List.take_succ_cons, List.take_zero, List.flatMap_cons, List.flatMap_nil, List.append_nil, List.append_assoc]
  have hlen : fixL.length = 288 := by simp only [fixL, List.length_append, List.length_replicate]
  have hC : CatParts (w.alloc (.cells #[.slice a1 144 c1, .slice a2 112 c2, .slice a3 24 c3, .slice a4 8 c4] 50)) w.heap.size ps := by
    intro k a la ca l hk
    subst hps
    rw [cell_of_row _ _ _ _ _ (0, 0) hrow]
    match k, hk with
    | 0, hk => cases hk; exact ⟨rfl, I1.mono hb⟩
    | 1, hk => cases hk; exact ⟨rfl, I2.mono hb⟩
    | 2, hk => cases hk; exact ⟨rfl, I3.mono hb⟩
    | 3, hk => cases hk; exact ⟨rfl, I4.mono hb⟩
    | k + 4, hk => simp at hk
  refine (concat_all w.heap.size 4 ps _ (by simp) (by subst hps; rfl) hC (by omega) (by rw [hcat, hlen]; omega) (by rw [hcat, hlen]; omega)).mono ?_
  rintro e w' ⟨v, rfl, hown, hb2⟩
  rw [hcat, hlen] at hown
  obtain ⟨a, cap, rfl, hI⟩ := own_is hown (by intro m hm; simp only [fixL, List.mem_append, List.mem_replicate] at hm; exact wf_int (by omega))
  exact ⟨a, cap, rfl, hI, below_then hb hb2⟩
theorem fix_book (w : World) (a : Option Addr) (len cap : Nat) (l : List Int) (h : Is .i64 w a len cap l) (hf : Cn.freeB l = true) (hl : len ≤ 512) :
    Calls Tryd.prog 93 #[.slice a len cap] w (fun e w' => ∃ g, e = .returned (.tuple #[.pointer (some ⟨g, 0, none⟩), .nilIface]) ∧ Bz w' (fun k => w.heap.size ≤ k ∧ k < w'.heap.size) g (Bk.rowsL l) ∧ Below w.heap.size w w') := by
  refine (Bk.book_low a len cap l w h (by omega)).mono ?_
  rintro e w' (⟨_, g, fs, vs, wv, rfl, h1, h2, hb⟩ | ⟨h1, _⟩)
  · exact ⟨g, rfl, bz_new h1 h2, hb⟩
  · rw [hf] at h1; cases h1
/-- The books of kind 1 lie there, or none does yet. -/
def FixPost (w : World) (D : Nat → Prop) (B gr gb : Nat) (bs : List UInt8) (p most : Nat) (ls : Bool) (s : Unp) (e : Ending) (w' : World) : Prop :=
  e = .returned .nilIface ∧ ∃ g5 g6, Ir w' (fun k => D k ∨ (w.heap.size ≤ k ∧ k < w'.heap.size)) B gr gb (.pointer (some ⟨g5, 0, none⟩)) (.pointer (some ⟨g6, 0, none⟩)) bs p most ls s ∧ Bz w' (fun k => w.heap.size ≤ k ∧ k < w'.heap.size) g5 (Bk.rowsL fixL) ∧ Bz w' (fun k => w.heap.size ≤ k ∧ k < w'.heap.size) g6 (Bk.rowsL fixD) ∧ Ch w w' (fun k => ¬ D k)
section
variable {w : World} {D : Nat → Prop} {B gr gb p most g5 : Nat} {p5 p6 : Value} {bs : List UInt8} {ls : Bool} {s : Unp}
set_option maxRecDepth 100000 in
set_option maxHeartbeats 4000000 in
theorem fixed_new (h : Ir w D B gr gb (.pointer none) (.pointer none) bs p most ls s) :
    Calls Tryd.prog 84 #[.pointer (some ⟨gr, 0, none⟩)] w (FixPost w D B gr gb bs p most ls s) := by
  have g5 : w.cell? ⟨gr, 5, none⟩ = some (.pointer none) := by
    obtain ⟨vb, cs, v, vl, k⟩ := h
    rw [cell_of_row _ _ _ _ _ (0, 0) k.ou.row]; exact k.k5
  have HI := Lib.hid h
  clear h
  go_enter Tryd.func84, Tryd.ntmps84
  go_wp2_with fail
  refine (rep_step w 8 144 (by omega) (by decide +kernel)).mono ?_
  rintro e w1 ⟨a1, c1, rfl, I1, B1⟩
  have H1 := Lib.hid (And.intro I1 B1)
  clear I1 B1
  go_wp2_with fail
  refine (rep_step w1 9 112 (by omega) (by decide +kernel)).mono ?_
  rintro e w2 ⟨a2, c2, rfl, I2, B2⟩
  have H2 := Lib.hid (And.intro (H1.out.1.mono B2) (And.intro I2 (below_then H1.out.2 B2)))
  clear I2 B2 H1
  go_wp2_with fail
  refine (rep_step w2 7 24 (by omega) (by decide +kernel)).mono ?_
  rintro e w3 ⟨a3, c3, rfl, I3, B3⟩
  have H3 := Lib.hid (And.intro (H2.out.1.mono B3) (And.intro (H2.out.2.1.mono B3) (And.intro I3 (below_then H2.out.2.2 B3))))
  clear I3 B3 H2
  go_wp2_with fail
  refine (rep_step w3 8 8 (by omega) (by decide +kernel)).mono ?_
  rintro e w4 ⟨a4, c4, rfl, I4, B4⟩
  have H4 := Lib.hid (And.intro (H3.out.1.mono B4) (And.intro (H3.out.2.1.mono B4) (And.intro (H3.out.2.2.1.mono B4) (And.intro I4 (below_then H3.out.2.2.2 B4)))))
  clear I4 B4 H3
  go_wp2_with fail
  refine (fix_concat w4 a1 a2 a3 a4 c1 c2 c3 c4 H4.out.1 H4.out.2.1 H4.out.2.2.1 H4.out.2.2.2.1).mono ?_
  rintro e w5 ⟨a5, c5, rfl, I5, B5⟩
  have H5 := Lib.hid (And.intro I5 (below_then H4.out.2.2.2.2 B5))
  clear I5 B5 H4
  go_wp2_with fail
  refine (fix_book w5 a5 288 c5 fixL H5.out.1 free_fixL (by omega)).mono ?_
  rintro e w6 ⟨gL, rfl, Z6, B6⟩
  have H6 := Lib.hid (And.intro Z6 (And.intro H5.out.2 B6))
  clear Z6 B6 H5
  go_wp2_with fail
  refine (rep_step w6 5 32 (by omega) (by decide +kernel)).mono ?_
  rintro e w7 ⟨a7, c7, rfl, I7, B7⟩
  have H7 := Lib.hid (And.intro I7 (And.intro H6.out (B7)))
  clear I7 B7 H6
  go_wp2_with fail
  refine (fix_book w7 a7 32 c7 fixD H7.out.1 free_fixD (by omega)).mono ?_
  rintro e w8 ⟨gD, rfl, Z8, B8⟩
  have HP : Hid (FixPost w D B gr gb bs p most ls s (.returned .nilIface) ((w8.setCell ⟨gr, 5, none⟩ (.pointer (some ⟨gL, 0, none⟩))).setCell ⟨gr, 6, none⟩ (.pointer (some ⟨gD, 0, none⟩))) ∧ w8.cell? ⟨gr, 5, none⟩ = some (.pointer none) ∧ w8.cell? ⟨gr, 6, none⟩ = some (.pointer none) ∧ w8.frozen? ⟨gr, 5, none⟩ = false ∧ w8.frozen? ⟨gr, 6, none⟩ = false) := Lib.hid (by
    obtain ⟨_, ⟨Z6, B5, B6⟩, B7⟩ := H7.out
    have b68 : Below w6.heap.size w6 w8 := below_then B7 B8
    have b58 : Below w.heap.size w w8 := below_then (below_then B5 B6) b68
    have z5 := B5.size
    have z6 := B6.size
    have z7 := B7.size
    have z8 := B8.size
    obtain ⟨vb, cs, v, vl, k0⟩ := HI.out
    have hgr := k0.ou.lt
    have k := k0.new b58
    obtain ⟨k2, cf⟩ := k.fix (.pointer (some ⟨gL, 0, none⟩)) (.pointer (some ⟨gD, 0, none⟩))
    have hsz : ((w8.setCell ⟨gr, 5, none⟩ (.pointer (some ⟨gL, 0, none⟩))).setCell ⟨gr, 6, none⟩ (.pointer (some ⟨gD, 0, none⟩))).heap.size = w8.heap.size := by simp
    refine ⟨⟨rfl, gL, gD, ⟨vb, _, v, vl, k2.less (fun j hj => ?_)⟩, ?_, ?_, ?_⟩, ?_, ?_, ?_, ?_⟩
    · rw [hsz] at hj; exact hj
    · exact ((Z6.kept (Ch.of_below (T := fun _ => False) b68) (fun _ _ h => h)).kept cf (fun j hj e => by omega)).wide (fun j hj => by rw [hsz]; omega)
    · exact (Z8.kept cf (fun j hj e => by omega)).wide (fun j hj => by rw [hsz]; omega)
    · exact (Ch.of_below b58).trans cf (fun n hn => .inl (fun hd => (k0.nd n hd).2.1 hn))
    · rw [cell_of_row _ _ _ _ _ (0, 0) k.ou.row]; exact k.k5
    · rw [cell_of_row _ _ _ _ _ (0, 0) k.ou.row]; exact k.k6
    · exact frozen_of_row _ _ _ _ _ k.ou.row
    · exact frozen_of_row _ _ _ _ _ k.ou.row)
  have q5 := HP.out.2.1
  have q6 := HP.out.2.2.1
  have f5 := HP.out.2.2.2.1
  have f6 := HP.out.2.2.2.2
  clear Z8 B8 H7 HI g5
  go_wp2
  go_ret
  exact HP.out.1
/-- They lie there already. -/
theorem fixed_old (h : Ir w D B gr gb (.pointer (some ⟨g5, 0, none⟩)) p6 bs p most ls s) :
    Calls Tryd.prog 84 #[.pointer (some ⟨gr, 0, none⟩)] w (fun e w' => e = .returned .nilIface ∧ w = w') := by
  have q5 : w.cell? ⟨gr, 5, none⟩ = some (.pointer (some ⟨g5, 0, none⟩)) := by
    obtain ⟨vb, cs, v, vl, k⟩ := h
    rw [cell_of_row _ _ _ _ _ (0, 0) k.ou.row]; exact k.k5
  clear h
  go_enter Tryd.func84, Tryd.ntmps84
  go_wp2
  go_ret
  exact ⟨rfl, rfl⟩
end
end Go.Proofs.YtfgpmccmalddjaaDoor
end

section
namespace Go.Proofs.YtfgpmccmalddjaaDoor
open Go.RowKit
attribute [local go_sem] Oper.semAt_some

namespace Ip
/-- What stands behind a block's kind; dyn reads a block of kind 2. -/
def blockP (dyn : Unp → Pr Unp) (most : Nat) (s : Unp) (k : Nat) : Pr Unp :=
  if k = 0 then storedP most s else if k = 1 then symsP most (Bk.rowsL fixL) (Bk.rowsL fixD) s else if k = 2 then dyn s else fail 2
end Ip
theorem ks_fixL : ∀ c ∈ Bk.ks (Bk.rowsL fixL), 0 ≤ c.1 ∧ c.1 ≤ 1000000 := by decide +kernel
theorem ks_fixD : ∀ c ∈ Bk.ks (Bk.rowsL fixD), 0 ≤ c.1 ∧ c.1 ≤ 1000000 := by decide +kernel
/-- The books of kind 1: none yet, or they lie in the zone. -/
def Fx (w : World) (D : Nat → Prop) (p5 p6 : Value) : Prop :=
  (p5 = .pointer none ∧ p6 = .pointer none) ∨ ∃ g5 g6, p5 = .pointer (some ⟨g5, 0, none⟩) ∧ p6 = .pointer (some ⟨g6, 0, none⟩) ∧ Bz w D g5 (Bk.rowsL fixL) ∧ Bz w D g6 (Bk.rowsL fixD)
theorem Fx.kept {w w' : World} {D : Nat → Prop} {p5 p6 : Value} (h : Fx w D p5 p6) (c : Ch w w' (fun k => ¬ D k)) : Fx w' D p5 p6 := by
  rcases h with h | ⟨g5, g6, h5, h6, z5, z6⟩
  · exact .inl h
  · exact .inr ⟨g5, g6, h5, h6, z5.kept c (fun _ hk hn => hn hk), z6.kept c (fun _ hk hn => hn hk)⟩
/-- What a block answers. -/
def BlPost (w : World) (D : Nat → Prop) (B gr gb : Nat) (bs : List UInt8) (most : Nat) (ls : Bool) (r : Ip.Rs Unp) (e : Ending) (w' : World) : Prop :=
  match r with
  | .ok s q => e = .returned .nilIface ∧ (∃ D' p5 p6, (∀ k, D k → D' k) ∧ (∀ k, D' k → D k ∨ w.heap.size ≤ k) ∧ Ir w' D' B gr gb p5 p6 bs q most ls s ∧ Fx w' D' p5 p6) ∧ Ch w w' (fun k => ¬ D k)
  | .err n => (n == 0) = false ∧ e = .returned (.iface 39 (.int .i64 n)) ∧ Ch w w' (fun k => ¬ D k)
theorem bl_of_ir {w w0 w' : World} {D D' : Nat → Prop} {B gr gb most : Nat} {p5 p6 : Value} {bs : List UInt8} {ls : Bool} {r : Ip.Rs Unp} {e : Ending} (h1 : ∀ k, D k → D' k) (h2 : ∀ k, D' k → D k ∨ w.heap.size ≤ k) (hc : Ch w w0 (fun k => ¬ D k)) (hF : Fx w0 D' p5 p6) (h : IrPost w0 D' B gr gb p5 p6 bs most ls r e w') : BlPost w D B gr gb bs most ls r e w' := by
  have hcc : ∀ w', Ch w0 w' (fun k => ¬ D' k) → Ch w w' (fun k => ¬ D k) := fun w' c => hc.trans c (fun n hn => .inl (fun hd => hn (h1 n hd)))
  cases r with
  | ok s q =>
    obtain ⟨k1, k2, k3⟩ := h
    exact ⟨k1, ⟨D', p5, p6, h1, h2, k2, hF.kept k3⟩, hcc _ k3⟩
  | err n =>
    obtain ⟨k1, k2, k3⟩ := h
    exact ⟨k1, k2, hcc _ k3⟩
section
variable {w : World} {D : Nat → Prop} {B gr gb p most : Nat} {p5 p6 : Value} {bs : List UInt8} {ls : Bool} {s : Unp}
theorem block_0 (dyn : Unp → Ip.Pr Unp) (h : Ir w D B gr gb p5 p6 bs p most ls s) (hF : Fx w D p5 p6) :
    Calls Tryd.prog 77 #[.pointer (some ⟨gr, 0, none⟩), .int .i64 0] w (BlPost w D B gr gb bs most ls (Ip.blockP dyn most s 0 (lob bs) p)) := by
  have HS := Lib.hid ((stored_any h).mono (fun e w' k => bl_of_ir (fun _ h => h) (fun _ h => .inl h) (Ch.refl _ _) hF k))
  have HE : Hid (Ip.blockP dyn most s 0 (lob bs) p = Ip.storedP most s (lob bs) p) := Lib.hid rfl
  clear h hF
  rw [HE.out]
  clear HE
  generalize Ip.storedP most s (lob bs) p = r at *
  go_enter Tryd.func77, Tryd.ntmps77
  go_wp2_with fail
  refine HS.out.mono ?_
  intro e w' hp
  obtain ⟨x, rfl⟩ : ∃ x, e = .returned x := by
    unfold BlPost at hp
    cases r with
    | ok s q => exact ⟨_, hp.1⟩
    | err n => exact ⟨_, hp.2.1⟩
  have HP := Lib.hid hp
  clear hp HS
  go_wp2
  go_ret
  exact HP.out
theorem block_3 (dyn : Unp → Ip.Pr Unp) (h : Ir w D B gr gb p5 p6 bs p most ls s) :
    Calls Tryd.prog 77 #[.pointer (some ⟨gr, 0, none⟩), .int .i64 3] w (BlPost w D B gr gb bs most ls (Ip.blockP dyn most s 3 (lob bs) p)) := by
  have HP : Hid (BlPost w D B gr gb bs most ls (Ip.blockP dyn most s 3 (lob bs) p) (.returned (.iface 39 (.int .i64 2))) w) := Lib.hid ⟨by decide, rfl, Ch.refl _ _⟩
  clear h
  go_enter Tryd.func77, Tryd.ntmps77
  go_wp2
  go_ret
  exact HP.out
/-- The books' own two cells, as one struct. -/
theorem Ir.books (h : Ir w D B gr gb p5 p6 bs p most ls s) : w.cell? ⟨gr, 5, none⟩ = some p5 ∧ w.cell? ⟨gr, 6, none⟩ = some p6 := by
  obtain ⟨vb, cs, v, vl, k⟩ := h
  constructor <;> rw [cell_of_row _ _ _ _ _ (0, 0) k.ou.row]
  · exact k.k5
  · exact k.k6
set_option maxRecDepth 100000 in
theorem block_1 (dyn : Unp → Ip.Pr Unp) (h : Ir w D B gr gb p5 p6 bs p most ls s) (hF : Fx w D p5 p6) :
    Calls Tryd.prog 77 #[.pointer (some ⟨gr, 0, none⟩), .int .i64 1] w (BlPost w D B gr gb bs most ls (Ip.blockP dyn most s 1 (lob bs) p)) := by
  have HE : Hid (Ip.blockP dyn most s 1 (lob bs) p = Ip.symsP most (Bk.rowsL fixL) (Bk.rowsL fixD) s (lob bs) p) := Lib.hid rfl
  rw [HE.out]
  clear HE
  have HPR : Hid (Calls Tryd.prog 84 #[.pointer (some ⟨gr, 0, none⟩)] w (fun e w' => e = .returned .nilIface ∧ ∃ D' g5 g6, (∀ k, D k → D' k) ∧ (∀ k, D' k → D k ∨ w.heap.size ≤ k) ∧ Ir w' D' B gr gb (.pointer (some ⟨g5, 0, none⟩)) (.pointer (some ⟨g6, 0, none⟩)) bs p most ls s ∧ Bz w' D' g5 (Bk.rowsL fixL) ∧ Bz w' D' g6 (Bk.rowsL fixD) ∧ Ch w w' (fun k => ¬ D k))) := Lib.hid (by
    rcases hF with ⟨rfl, rfl⟩ | ⟨g5, g6, rfl, rfl, z5, z6⟩
    · refine (fixed_new h).mono ?_
      rintro e w' ⟨rfl, g5, g6, h1, h2, h3, h4⟩
      exact ⟨rfl, _, g5, g6, fun k hk => .inl hk, fun k hk => hk.imp id And.left, h1, h2.wide (fun k hk => .inr hk), h3.wide (fun k hk => .inr hk), h4⟩
    · refine (fixed_old h).mono ?_
      rintro e w' ⟨rfl, rfl⟩
      exact ⟨rfl, D, g5, g6, fun k hk => hk, fun k hk => .inl hk, h, z5, z6, Ch.refl _ _⟩)
  clear h hF
  go_enter Tryd.func77, Tryd.ntmps77
  go_wp2_with fail
  refine HPR.out.mono ?_
  rintro e w1 ⟨rfl, D', g5, g6, h1, h2, hir, z5, z6, hc⟩
  obtain ⟨q5, q6⟩ := hir.books
  have hFx : Fx w1 D' (.pointer (some ⟨g5, 0, none⟩)) (.pointer (some ⟨g6, 0, none⟩)) := .inr ⟨g5, g6, rfl, rfl, z5, z6⟩
  have hsy := fun RL RD (zL : Bz w1 D' g5 RL) (zD : Bz w1 D' g6 RD) gL gD kL kD => (symbols_any hir zL zD gL gD kL kD).mono (fun e w' k => bl_of_ir h1 h2 hc hFx k)
  have HS := Lib.hid (hsy _ _ z5 z6 (Bk.good_of _ free_fixL) (Bk.good_of _ free_fixD) ks_fixL ks_fixD)
  clear hir z5 z6 hc h1 h2 HPR hFx hsy
  generalize Ip.symsP most (Bk.rowsL fixL) (Bk.rowsL fixD) s (lob bs) p = r at *
  go_wp2_with fail
  refine HS.out.mono ?_
  intro e w' hp
  obtain ⟨x, rfl⟩ : ∃ x, e = .returned x := by
    unfold BlPost at hp
    cases r with
    | ok s q => exact ⟨_, hp.1⟩
    | err n => exact ⟨_, hp.2.1⟩
  have HP := Lib.hid hp
  clear hp HS
  go_wp2
  go_ret
  exact HP.out
end
end Go.Proofs.YtfgpmccmalddjaaDoor
end

section
namespace Go.Proofs.YtfgpmccmalddjaaDoor
namespace Ip
/-- A reader that never goes back. -/
def Mono {α : Type} (f : Pr α) : Prop := ∀ u p a q, f u p = .ok a q → p ≤ q
theorem mono_pure {α : Type} (a : α) : Mono (pure a) := fun u p b q h => by cases h; exact Nat.le_refl _
theorem mono_fail {α : Type} (n : Int) : Mono (fail n : Pr α) := fun u p b q h => by cases h
theorem mono_bind {α β : Type} {f : Pr α} {g : α → Pr β} (hf : Mono f) (hg : ∀ a, Mono (g a)) : Mono (bind f g) := fun u p b q h => by
  cases hx : f u p with
  | err n => rw [bind_err hx] at h; cases h
  | ok a r =>
    rw [bind_ok hx] at h
    exact Nat.le_trans (hf u p a r hx) (hg a u r b q h)
theorem mono_take (c : Nat) : Mono (take c) := fun u p b q h => by
  unfold take at h
  split at h
  · cases h; omega
  · cases h
theorem mono_align : Mono align := fun u p b q h => by cases h; omega
theorem mono_ite {α : Type} (c : Prop) [Decidable c] {f g : Pr α} (hf : Mono f) (hg : Mono g) : Mono (if c then f else g) := by
  split
  · exact hf
  · exact hg
theorem mono_loop {σ ρ : Type} {step : σ → Pr (σ ⊕ ρ)} (h : ∀ s, Mono (step s)) : ∀ k s, Mono (loop step k s)
  | 0, _ => mono_fail 8
  | k + 1, s => mono_bind (h s) fun x => by
    cases x with
    | inl s' => exact mono_loop h k s'
    | inr r => exact mono_pure r
theorem mono_numbers : ∀ cs, Mono (numbers cs)
  | [] => mono_pure []
  | c :: cs => mono_bind (mono_take c) fun n => mono_bind (mono_numbers cs) fun ns => mono_pure (n :: ns)
theorem mono_rdP (R : Nat → List Nat) : Mono (rdP R) := fun u p b q h => by
  unfold rdP at h
  split at h
  · cases h; omega
  · cases h
theorem mono_addP (most : Nat) (t : Tok) (s : Unp) : Mono (addP most t s) := fun u p b q h => by
  unfold addP at h
  split at h
  · cases h; omega
  · cases h
theorem mono_aboveP (b x : Nat) (ok : Bool) : Mono (aboveP b x ok) := mono_ite _ (mono_bind (mono_take x) fun n => mono_pure _) (mono_fail 2)
theorem mono_lenP (y : Int) : Mono (lenP y) := mono_ite _ (mono_aboveP _ _ _) (mono_aboveP _ _ _)
theorem mono_distP (y : Int) : Mono (distP y) := mono_ite _ (mono_aboveP _ _ _) (mono_aboveP _ _ _)
theorem mono_matchP (R : Nat → List Nat) (y : Int) : Mono (matchP R y) := mono_bind (mono_lenP y) fun n => mono_bind (mono_rdP R) fun z => mono_bind (mono_distP z) fun d => mono_pure _
theorem mono_symsP (most : Nat) (RL RD : Nat → List Nat) (s : Unp) : Mono (symsP most RL RD s) := mono_loop (fun s => mono_bind (mono_rdP RL) fun y => mono_ite _ (mono_pure _) (mono_ite _ (mono_bind (mono_matchP RD y) fun t => mono_bind (mono_addP most t s) fun s' => mono_pure _) (mono_bind (mono_addP most _ s) fun s' => mono_pure _))) _ _
theorem mono_addsP (most : Nat) : ∀ xs s, Mono (addsP most xs s)
  | [], s => mono_pure s
  | x :: xs, s => mono_bind (mono_addP most _ s) (mono_addsP most xs)
theorem mono_storedP (most : Nat) (s : Unp) : Mono (storedP most s) := mono_bind mono_align fun _ => mono_bind (mono_numbers _) fun ns => mono_ite _ (mono_ite _ (mono_bind (mono_numbers _) fun xs => mono_addsP most xs s) (mono_fail 4)) (mono_fail 2)
theorem mono_blockP {dyn : Unp → Pr Unp} (hd : ∀ s, Mono (dyn s)) (most : Nat) (s : Unp) (k : Nat) : Mono (blockP dyn most s k) := mono_ite _ (mono_storedP most s) (mono_ite _ (mono_symsP most _ _ s) (mono_ite _ (hd s) (mono_fail 2)))
/-- One block: its mark, its kind, and what stands behind. -/
def unpStep (dyn : Unp → Pr Unp) (most : Nat) (s : Unp) : Pr (Unp ⊕ Unp) := bind (numbers [1, 2]) fun ns => bind (blockP dyn most s (ns.getD 1 0)) fun s' => pure (if ns.getD 0 0 = 1 then .inr s' else .inl s')
/-- All blocks. -/
def unpP (dyn : Unp → Pr Unp) (most : Nat) : Pr Unp := loop (unpStep dyn most) big ([], [])
end Ip
end Go.Proofs.YtfgpmccmalddjaaDoor
end

section
namespace Go.Proofs.YtfgpmccmalddjaaDoor
open Go.RowKit

namespace Ip
/-- In which order the lengths of a sequence's symbols stand. -/
def order : List Nat := [16, 17, 18, 0, 8, 7, 9, 6, 10, 5, 11, 4, 12, 3, 13, 2, 14, 1, 15]
theorem order_lt (i : Nat) (h : i < 19) : order.getD i 0 < 19 := by
  have : ∀ i, i < 19 → order.getD i 0 < 19 := by decide
  exact this i h
/-- The lengths of a sequence's symbols, each in its place: so many of them. -/
def place (own : List Nat) : Nat → List Int
  | 0 => List.replicate 19 0
  | k + 1 => (place own k).set (order.getD k 0) ((own.getD k 0 : Nat) : Int)
theorem place_length (own : List Nat) : ∀ k, (place own k).length = 19
  | 0 => by simp [place]
  | k + 1 => by simp [place, place_length own k]
theorem place_mem (own : List Nat) (b : Int) (hb : ∀ n ∈ own, ((n : Nat) : Int) ≤ b) (h0 : 0 ≤ b) : ∀ k, k ≤ own.length → ∀ x ∈ place own k, 0 ≤ x ∧ x ≤ b
  | 0, _, x, hx => by
    simp only [place, List.mem_replicate] at hx
    omega
  | k + 1, hk, x, hx => by
    rw [place] at hx
    rcases List.mem_or_eq_of_mem_set hx with hx | hx
    · exact place_mem own b hb h0 k (by omega) x hx
    · have hm : own.getD k 0 ∈ own := by rw [List.getD, List.getElem?_eq_getElem (by omega : k < own.length)]; exact List.getElem_mem _
      have := hb _ hm
      omega
/-- How many literal lengths and distance lengths there are. -/
def sizesP : Pr (Nat × Nat) := bind (take 5) fun n => if 286 < n + 257 then fail 2 else bind (take 5) fun m => if 30 < m + 1 then fail 2 else pure (n + 257, m + 1)
/-- Lengths that are in form and whole. -/
def whole (l : List Int) : Bool := Cn.freeB l && decide (Cn.sum l = 65536)
def seqP : Pr (List Int) := bind (take 4) fun n => bind (numbers (List.replicate (n + 4) 3)) fun own => if whole (place own own.length) = true then pure (place own own.length) else fail 2
/-- What a symbol of a sequence stands for: a length, and how often. -/
def runP (y : Int) (ls : List Int) : Pr (Int × Nat) :=
  if y = 16 then (if ls = [] then fail 2 else bind (aboveP 3 2 true) fun c => pure (ls.getD (ls.length - 1) 0, c))
  else if y = 17 then bind (aboveP 3 3 true) (fun c => pure (0, c))
  else if y = 18 then bind (aboveP 11 7 true) (fun c => pure (0, c))
  else pure (y, 1)
def growK (size : Nat) (ls : List Int) (x : Int × Nat) : Pr (List Int ⊕ List Int) := if size - ls.length < x.2 then fail 2 else pure (.inl (ls ++ List.replicate x.2 x.1))
def growStep (R : Nat → List Nat) (size n : Nat) (ls : List Int) : Pr (List Int ⊕ List Int) :=
  if n ≤ ls.length then pure (.inr ls) else bind (rdP R) fun y => bind (runP y ls) (growK size ls)
def growP (R : Nat → List Nat) (size n : Nat) (ls : List Int) : Pr (List Int) := loop (growStep R size n) 1000 ls
def litOk (l : List Int) : Bool := whole l && !decide (l.getD 256 0 = 0)
def distOk (l : List Int) : Bool := Cn.freeB l && (decide (Cn.sum l = 65536) || decide (l.sum ≤ 1))
def booksP : Pr (List Int × List Int) := bind sizesP fun ad => bind seqP fun cl => bind (growP (Bk.rowsL cl) (ad.1 + ad.2) ad.1 []) fun ls =>
  if litOk (ls.take ad.1) = true then bind (growP (Bk.rowsL cl) (ad.1 + ad.2) (ad.1 + ad.2) ls) fun ls2 => if distOk (ls2.drop ad.1) = true then pure (ls.take ad.1, ls2.drop ad.1) else fail 2
  else fail 2
def dynP (most : Nat) (s : Unp) : Pr Unp := bind booksP fun b => symsP most (Bk.rowsL b.1) (Bk.rowsL b.2) s
theorem mono_runP (y : Int) (ls : List Int) : Mono (runP y ls) := mono_ite _ (mono_ite _ (mono_fail 2) (mono_bind (mono_aboveP _ _ _) fun _ => mono_pure _)) (mono_ite _ (mono_bind (mono_aboveP _ _ _) fun _ => mono_pure _) (mono_ite _ (mono_bind (mono_aboveP _ _ _) fun _ => mono_pure _) (mono_pure _)))
theorem mono_growP (R : Nat → List Nat) (size n : Nat) (ls : List Int) : Mono (growP R size n ls) := mono_loop (fun s => mono_ite _ (mono_pure _) (mono_bind (mono_rdP R) fun y => mono_bind (mono_runP y s) fun x => mono_ite _ (mono_fail 2) (mono_pure _))) _ _
theorem mono_sizesP : Mono sizesP := mono_bind (mono_take 5) fun n => mono_ite _ (mono_fail 2) (mono_bind (mono_take 5) fun m => mono_ite _ (mono_fail 2) (mono_pure _))
theorem mono_seqP : Mono seqP := mono_bind (mono_take 4) fun n => mono_bind (mono_numbers _) fun own => mono_ite _ (mono_pure _) (mono_fail 2)
theorem mono_booksP : Mono booksP := mono_bind mono_sizesP fun ad => mono_bind mono_seqP fun cl => mono_bind (mono_growP _ _ _ _) fun ls => mono_ite _ (mono_bind (mono_growP _ _ _ _) fun ls2 => mono_ite _ (mono_pure _) (mono_fail 2)) (mono_fail 2)
theorem mono_dynP (most : Nat) (s : Unp) : Mono (dynP most s) := mono_bind mono_booksP fun b => mono_symsP most _ _ s
end Ip
/-- The table in which the order stands, as the program's text lays it: a variable of the package's. -/
def Lo (w : World) : Prop := ∀ i, i < 19 → w.cell? ⟨1, i, none⟩ = some (.int .i64 ((Ip.order.getD i 0 : Nat) : Int))
theorem Lo.kept {w w' : World} {T : Nat → Prop} (h : Lo w) (c : Ch w w' T) (h0 : ¬ T 1) (hz : 1 < w.heap.size) : Lo w' := fun i hi => by
  rw [World.cell?_of_block (w := w) (c.block 1 hz h0)]; exact h i hi
section
variable {w w' : World} {D : Nat → Prop} {B gr gb p q : Nat} {vb : Value} {bs : List UInt8} {cs : Array Value} {v vl p5 p6 : Value} {most : Nat} {ls : Bool} {s : Unp}
/-- Only blocks that are kept have changed, and what was made since is kept, too. -/
theorem Irx.keep (h : Irx w D B gr gb vb bs p cs v vl p5 p6 most ls s) (c : Ch w w' D) : Irx w' (fun k => D k ∨ (w.heap.size ≤ k ∧ k < w'.heap.size)) B gr gb vb bs p cs v vl p5 p6 most ls s := by
  have hz := c.size
  have hgr := h.ou.lt
  have hgb := h.rd.lt
  refine ⟨⟨(c.block gr hgr (fun hd => (h.nd gr hd).2.1 rfl)).trans h.ou.row, h.ou.k0, h.ou.k1, h.ou.k2, h.ou.k3, c.own h.ou.own (fun k hk hd => (h.nd k hd).2.2.2.1 hk), c.own h.ou.ol (fun k hk hd => (h.nd k hd).2.2.2.2.1 hk), h.ou.n1, h.ou.n2, h.ou.n3⟩, h.c0, h.rd.kept c (fun hd => (h.nd gb hd).2.2.1 rfl) (fun k hk hd => (h.nd k hd).2.2.2.2.2 hk), h.hp, h.hm, h.hl, h.ht, h.hbl, Nat.le_trans h.hB hz, h.gg, h.vb1, h.gb1, h.k5, h.k6, fun j hj => ?_⟩
  rcases hj with hj | ⟨j1, j2⟩
  · exact ⟨Nat.lt_of_lt_of_le (h.nd j hj).1 hz, (h.nd j hj).2⟩
  · exact ⟨j2, fun e => by omega, fun e => by omega, fun e => by have := (h.ou.own.lt j e).2; omega, fun e => by have := (h.ou.ol.lt j e).2; omega, fun e => by have := (h.rd.own.lt j e).2; omega⟩
theorem Ir.keep (h : Ir w D B gr gb p5 p6 bs p most ls s) (c : Ch w w' D) : Ir w' (fun k => D k ∨ (w.heap.size ≤ k ∧ k < w'.heap.size)) B gr gb p5 p6 bs p most ls s := by
  obtain ⟨vb, cs, v, vl, h⟩ := h
  exact ⟨vb, cs, v, vl, h.keep c⟩
end
end Go.Proofs.YtfgpmccmalddjaaDoor
end
