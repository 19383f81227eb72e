/- canon.NewBook: its contract. canon.NewBook: its contract, and where the book lies. The reader of inflate in memory. inflate's symbols: their bases, and which symbol a number has. What the reader of inflate asks of its bits, its books and its output. -/
import Derived.Test.YtfgpmccmalddjaaDoorZ12
import Derived.Test.YtfgpmccmalddjaaDoorProg
set_option linter.unusedSimpArgs false
set_option linter.unusedVariables false
section
namespace Go.Proofs.YtfgpmccmalddjaaDoor
open Go.RowKit

namespace Bk
/-- The numbers below k, then 0. -/
def upto (n k : Nat) : List Int := (List.range n).map fun i => if i < k then (i : Int) else 0
theorem upto_length (n k : Nat) : (upto n k).length = n := by simp [upto]
theorem upto_zero (n : Nat) : upto n 0 = List.replicate n 0 := by
  rw [List.eq_replicate_iff]
  refine ⟨upto_length _ _, fun b hb => ?_⟩
  simp only [upto, List.mem_map] at hb
  obtain ⟨i, _, rfl⟩ := hb
  simp
theorem upto_set (n k : Nat) : (upto n k).set k (k : Int) = upto n (k + 1) := by
  apply List.ext_getElem?
  intro i
  rw [List.getElem?_set, upto_length]
  by_cases hi : i < n
  · have e1 : ∀ m, (upto n m)[i]? = some (if i < m then (i : Int) else 0) := fun m => by simp [upto, List.getElem?_range hi]
    rw [e1, e1]
    by_cases h : k = i
    · subst h; rw [if_pos rfl, if_pos hi, if_pos (by omega)]
    · rw [if_neg h]
      by_cases h2 : i < k
      · rw [if_pos h2, if_pos (by omega)]
      · rw [if_neg h2, if_neg (by omega)]
  · have e1 : ∀ m, (upto n m)[i]? = none := fun m => by rw [List.getElem?_eq_none]; rw [upto_length]; omega
    rw [e1, e1]
    split
    · rw [if_neg (by omega)]
    · rfl
theorem upto_full (n : Nat) : upto n n = sy (List.range n) := by
  unfold upto sy
  apply List.map_congr_left
  intro i hi
  rw [if_pos (List.mem_range.1 hi)]
def BookPost (w : World) (l : List Int) (e : Ending) (w' : World) : Prop :=
  (Cn.freeB l = true ∧ ∃ g, e = .returned (.tuple #[.pointer (some ⟨g, 0, none⟩), .nilIface]) ∧ Book w' w'.heap.size g (rowsL l) (wsOf (seq (rowsL l) 17) l.length) ∧ Below w.heap.size w w' ∧ w.heap.size ≤ g) ∨
  (Cn.freeB l = false ∧ e = .returned (.tuple #[.pointer none, .iface 39 (.int .i64 6)]) ∧ Below w.heap.size w w')
set_option maxRecDepth 100000 in
theorem book_any (a : Option Addr) (len cap : Nat) (l : List Int) (w : World) (h : Is .i64 w a len cap l) (hr : len ≤ 140737488355328) :
    Calls Tryd.prog 93 #[.slice a len cap] w (BookPost w l) := by
  have HL := Lib.hid h.hlen
  have H := Lib.hid h
  clear h
  go_enter Tryd.func93, Tryd.ntmps93
  go_wp2_with fail
  refine (free_any a len cap l _ H.out hr).mono ?_
  rintro e w' ⟨rfl, rfl⟩
  cases hf : Cn.freeB l
  · have HF := Lib.hid hf
    clear hf
    simp only [Bool.false_eq_true, if_false]
    go_wp2
    go_ret2
    exact .inr ⟨HF.out, rfl, Below.refl _ _⟩
  · have HF := Lib.hid hf
    have hl5 : len ≤ 512 := by
      simp only [Cn.freeB, Cn.formB, Bool.and_eq_true, decide_eq_true_eq] at hf
      have := hf.1.1; rw [HL.out] at this; exact this
    clear hf
    simp only [if_true]
    go_wp2_with (at_make; refine wpl_make_full tyI rfl _ _ rfl w.heap.size .i64 .i64 _ _ len rfl rfl rfl rfl (by omega) (by omega) (Nat.le_refl _) ?_)
    intro w1 own1 hg1
    have hb1 : Below w.heap.size w w1 := (Below.refl _ _).grown hg1 (Nat.le_refl _) (by simp)
    have hz1 := hb1.size
    have own2 : w1.ownsRow w.heap.size 3 1 (.slice (some ⟨w.heap.size, 0, none⟩) len len) len (ivs (upto len 0)) := by rw [upto_zero]; have e := made_ints1 len; rw [Nat.mul_one] at e; rw [e] at own1; exact own1
    have HO := Lib.hid own2
    clear own1 own2 hg1
    generalize hq : w.heap.size = q at *
    have HQ := Lib.hid hq
    clear hq
    go_wp2
    go_loopw [21] (fun i wr => ∃ k : Nat, k ≤ len ∧ i = .int .i64 k ∧ Hid (wr.ownsRow q 3 1 (.slice (some ⟨q, 0, none⟩) len len) len (ivs (upto len k))) ∧ Hid (Below q w wr)) (fun i _ => len - (intOf i).toNat)
    case atStart => exact ⟨0, by omega, rfl, HO, Lib.hid hb1⟩
    case round =>
      obtain ⟨k, hk, rfl, HK, HB⟩ := hrel
      by_cases hlt : k < len
      · have c1 : ∃ z, wr.cell? ⟨q, k, none⟩ = some z := ⟨_, by rw [HK.out.cellAt k (by omega), ivs_get _ _ (by rw [upto_length]; exact hlt)]⟩
        obtain ⟨z, c1⟩ := c1
        have HS := Lib.hid (own_set HK.out k (k : Int))
        rw [upto_set] at HS
        have HB2 := Lib.hid (HB.out.setCell (p := ⟨q, k, none⟩) (Nat.le_refl _) (.int .i64 (k : Nat)))
        have f1 : wr.frozen? ⟨q, k, none⟩ = false := by
          rcases HK.out.2 with ⟨h1, _⟩ | ⟨g2, cap2, cur, h1, _, hg, _⟩
          · simp at h1
          · simp only [Value.slice.injEq, Option.some.injEq, Addr.mk.injEq, and_true, true_and] at h1
            obtain ⟨rfl, rfl⟩ := h1
            exact frozen_of_row _ _ _ _ _ hg
        go_wp2
        go_roundw
        case rel => exact ⟨k + 1, by omega, by go_num, HS, HB2⟩
        case measure => simp [intOf]; omega
      · obtain rfl : len = k := by omega
        rw [upto_full] at HK
        have hw : Wf (sy (List.range len)) := fun n hn => by
          simp only [sy, List.mem_map, List.mem_range] at hn
          obtain ⟨i, hi, rfl⟩ := hn
          simp only [Lit.wf, IntKind.min, IntKind.max, IntKind.signed, IntKind.bits, Bool.and_eq_true, decide_eq_true_eq, if_true]
          simp; omega
        have his := is_of_own HK.out hw 0 len len (by omega) (Nat.le_refl _)
        rw [List.drop_zero, List.take_of_length_le (by rw [sy_length, List.length_range]; exact Nat.le_refl _)] at his
        have HI := Lib.hid his
        have H2 := Lib.hid (H.out.mono (HB.out.mono (by rw [HQ.out]; exact Nat.le_refl _)))
        have hz : ∀ k, k < len → 0 ≤ l.getD k 0 ∧ l.getD k 0 ≤ 16 := fun k hk => by
          have h1 := HF.out
          simp only [Cn.freeB, Bool.and_eq_true] at h1
          exact Cn.form_mem l h1.1 _ (by have : k < l.length := by rw [HL.out]; exact hk
                                         simp [List.getD, List.getElem?_eq_getElem this])
        have HZ := Lib.hid hz
        clear hw his hz
        go_wp2_with fail
        refine (newBook_any _ len len (List.range len) a len cap l wr HI.out H2.out (by omega) (by omega) (fun s hs => List.mem_range.1 hs) HZ.out (by have := good_of l HF.out; unfold rowsL at this; rw [HL.out] at this; exact this)).mono ?_
        rintro e w5 ⟨g, fs, vs, wv, rfl, hfs, hnb, hb5⟩
        have hgq := hnb.hg
        have hbq := HB.out.size
        have HP : Hid (BookPost w l (.returned (.tuple #[.pointer (some ⟨g, 0, none⟩), .nilIface])) w5) := Lib.hid (by
          have e1 : rowsOf l (List.range len) = rowsL l := by unfold rowsL; rw [HL.out]
          rw [e1] at hfs hnb
          refine .inl ⟨HF.out, g, rfl, Book.of hnb hfs, ?_, ?_⟩
          · rw [HQ.out]; exact HB.out.trans (hb5.mono (by rw [← HQ.out]; exact hbq))
          · rw [HQ.out]; exact Nat.le_trans (by rw [← HQ.out]; exact hbq) hgq)
        clear hnb hfs hb5 hgq hbq
        go_wp2
        go_ret2
        exact HP.out
end Bk
end Go.Proofs.YtfgpmccmalddjaaDoor
end

section
namespace Go.Proofs.YtfgpmccmalddjaaDoor
open Go.RowKit

namespace Bk
def BookLow (w : World) (l : List Int) (e : Ending) (w' : World) : Prop :=
  (Cn.freeB l = true ∧ ∃ (g : Nat) (fs : Nat → Int) (vs : Nat → Value) (wv : Value), e = .returned (.tuple #[.pointer (some ⟨g, 0, none⟩), .nilIface]) ∧ (∀ n, n < 17 → fs n = (fst (rowsL l) n : Nat)) ∧ NB w' w.heap.size g fs vs wv (nx (rowsL l) 17 : Nat) (rowsL l) (wsOf (seq (rowsL l) 17) l.length) ∧ Below w.heap.size w w') ∨
  (Cn.freeB l = false ∧ e = .returned (.tuple #[.pointer none, .iface 39 (.int .i64 6)]) ∧ Below w.heap.size w w')
set_option maxRecDepth 100000 in
theorem book_low (a : Option Addr) (len cap : Nat) (l : List Int) (w : World) (h : Is .i64 w a len cap l) (hr : len ≤ 140737488355328) :
    Calls Tryd.prog 93 #[.slice a len cap] w (BookLow w l) := by
  have HL := Lib.hid h.hlen
  have H := Lib.hid h
  clear h
  go_enter Tryd.func93, Tryd.ntmps93
  go_wp2_with fail
  refine (free_any a len cap l _ H.out hr).mono ?_
  rintro e w' ⟨rfl, rfl⟩
  cases hf : Cn.freeB l
  · have HF := Lib.hid hf
    clear hf
    simp only [Bool.false_eq_true, if_false]
    go_wp2
    go_ret2
    exact .inr ⟨HF.out, rfl, Below.refl _ _⟩
  · have HF := Lib.hid hf
    have hl5 : len ≤ 512 := by
      simp only [Cn.freeB, Cn.formB, Bool.and_eq_true, decide_eq_true_eq] at hf
      have := hf.1.1; rw [HL.out] at this; exact this
    clear hf
    simp only [if_true]
    go_wp2_with (at_make; refine wpl_make_full tyI rfl _ _ rfl w.heap.size .i64 .i64 _ _ len rfl rfl rfl rfl (by omega) (by omega) (Nat.le_refl _) ?_)
    intro w1 own1 hg1
    have hb1 : Below w.heap.size w w1 := (Below.refl _ _).grown hg1 (Nat.le_refl _) (by simp)
    have hz1 := hb1.size
    have own2 : w1.ownsRow w.heap.size 3 1 (.slice (some ⟨w.heap.size, 0, none⟩) len len) len (ivs (upto len 0)) := by rw [upto_zero]; have e := made_ints1 len; rw [Nat.mul_one] at e; rw [e] at own1; exact own1
    have HO := Lib.hid own2
    clear own1 own2 hg1
    generalize hq : w.heap.size = q at *
    have HQ := Lib.hid hq
    clear hq
    go_wp2
    go_loopw [21] (fun i wr => ∃ k : Nat, k ≤ len ∧ i = .int .i64 k ∧ Hid (wr.ownsRow q 3 1 (.slice (some ⟨q, 0, none⟩) len len) len (ivs (upto len k))) ∧ Hid (Below q w wr)) (fun i _ => len - (intOf i).toNat)
    case atStart => exact ⟨0, by omega, rfl, HO, Lib.hid hb1⟩
    case round =>
      obtain ⟨k, hk, rfl, HK, HB⟩ := hrel
      by_cases hlt : k < len
      · have c1 : ∃ z, wr.cell? ⟨q, k, none⟩ = some z := ⟨_, by rw [HK.out.cellAt k (by omega), ivs_get _ _ (by rw [upto_length]; exact hlt)]⟩
        obtain ⟨z, c1⟩ := c1
        have HS := Lib.hid (own_set HK.out k (k : Int))
        rw [upto_set] at HS
        have HB2 := Lib.hid (HB.out.setCell (p := ⟨q, k, none⟩) (Nat.le_refl _) (.int .i64 (k : Nat)))
        have f1 : wr.frozen? ⟨q, k, none⟩ = false := by
          rcases HK.out.2 with ⟨h1, _⟩ | ⟨g2, cap2, cur, h1, _, hg, _⟩
          · simp at h1
          · simp only [Value.slice.injEq, Option.some.injEq, Addr.mk.injEq, and_true, true_and] at h1
            obtain ⟨rfl, rfl⟩ := h1
            exact frozen_of_row _ _ _ _ _ hg
        go_wp2
        go_roundw
        case rel => exact ⟨k + 1, by omega, by go_num, HS, HB2⟩
        case measure => simp [intOf]; omega
      · obtain rfl : len = k := by omega
        rw [upto_full] at HK
        have hw : Wf (sy (List.range len)) := fun n hn => by
          simp only [sy, List.mem_map, List.mem_range] at hn
          obtain ⟨i, hi, rfl⟩ := hn
          simp only [Lit.wf, IntKind.min, IntKind.max, IntKind.signed, IntKind.bits, Bool.and_eq_true, decide_eq_true_eq, if_true]
          simp; omega
        have his := is_of_own HK.out hw 0 len len (by omega) (Nat.le_refl _)
        rw [List.drop_zero, List.take_of_length_le (by rw [sy_length, List.length_range]; exact Nat.le_refl _)] at his
        have HI := Lib.hid his
        have H2 := Lib.hid (H.out.mono (HB.out.mono (by rw [HQ.out]; exact Nat.le_refl _)))
        have hz : ∀ k, k < len → 0 ≤ l.getD k 0 ∧ l.getD k 0 ≤ 16 := fun k hk => by
          have h1 := HF.out
          simp only [Cn.freeB, Bool.and_eq_true] at h1
          exact Cn.form_mem l h1.1 _ (by have : k < l.length := by rw [HL.out]; exact hk
                                         simp [List.getD, List.getElem?_eq_getElem this])
        have HZ := Lib.hid hz
        clear hw his hz
        go_wp2_with fail
        refine (newBook_any _ len len (List.range len) a len cap l wr HI.out H2.out (by omega) (by omega) (fun s hs => List.mem_range.1 hs) HZ.out (by have := good_of l HF.out; unfold rowsL at this; rw [HL.out] at this; exact this)).mono ?_
        rintro e w5 ⟨g, fs, vs, wv, rfl, hfs, hnb, hb5⟩
        have hgq := hnb.hg
        have hbq := HB.out.size
        have HP : Hid (BookLow w l (.returned (.tuple #[.pointer (some ⟨g, 0, none⟩), .nilIface])) w5) := Lib.hid (by
          have e1 : rowsOf l (List.range len) = rowsL l := by unfold rowsL; rw [HL.out]
          rw [e1] at hfs hnb
          refine .inl ⟨HF.out, g, fs, vs, wv, rfl, hfs, ?_, ?_⟩
          · rw [HQ.out]; exact hnb.base (by rw [← HQ.out]; exact hbq)
          · rw [HQ.out]; exact HB.out.trans (hb5.mono (by rw [← HQ.out]; exact hbq)))
        clear hnb hfs hb5 hgq hbq
        go_wp2
        go_ret2
        exact HP.out
end Bk
end Go.Proofs.YtfgpmccmalddjaaDoor
end

section
namespace Go.Proofs.YtfgpmccmalddjaaDoor
open Go.RowKit

/-- What has been unpacked: the bytes, and the tokens. -/
abbrev Unp := List UInt8 × List Tok
/-- A book whose blocks lie in a zone. -/
def Bz (w : World) (F : Nat → Prop) (g : Nat) (R : Nat → List Nat) : Prop :=
  ∃ (B : Nat) (fs : Nat → Int) (vs : Nat → Value) (wv : Value) (ws : List (Nat × Nat)), (∀ n, n < 17 → fs n = (Bk.fst R n : Nat)) ∧ Bk.NB w B g fs vs wv (Bk.nx R 17 : Nat) R ws ∧ F g ∧ (∀ k, wv.ownBlock = some k → F k) ∧ (∀ k, Bk.Tr vs k → F k)
theorem Bz.kept {w w' : World} {F T : Nat → Prop} {g : Nat} {R : Nat → List Nat} (h : Bz w F g R) (c : Ch w w' T) (hT : ∀ k, F k → ¬ T k) : Bz w' F g R := by
  obtain ⟨B, fs, vs, wv, ws, h1, h2, h3, h4, h5⟩ := h
  exact ⟨B, fs, vs, wv, ws, h1, h2.kept c (hT _ h3) (fun k hk => hT _ (h4 k hk)) (fun k hk => hT _ (h5 k hk)), h3, h4, h5⟩
theorem Bz.wide {w : World} {F G : Nat → Prop} {g : Nat} {R : Nat → List Nat} (h : Bz w F g R) (hG : ∀ k, F k → G k) : Bz w G g R := by
  obtain ⟨B, fs, vs, wv, ws, h1, h2, h3, h4, h5⟩ := h
  exact ⟨B, fs, vs, wv, ws, h1, h2, hG _ h3, fun k hk => hG _ (h4 k hk), fun k hk => hG _ (h5 k hk)⟩
theorem Bz.lt {w : World} {F : Nat → Prop} {g : Nat} {R : Nat → List Nat} (h : Bz w F g R) : g < w.heap.size := by
  obtain ⟨B, fs, vs, wv, ws, h1, h2, h3, h4, h5⟩ := h
  exact h2.lt
/-- The lengths of kind 1. -/
def fixL : List Int := List.replicate 144 8 ++ List.replicate 112 9 ++ List.replicate 24 7 ++ List.replicate 8 8
def fixD : List Int := List.replicate 32 5
structure Irx (w : World) (D : Nat → Prop) (B gr gb : Nat) (vb : Value) (bs : List UInt8) (p : Nat) (cs : Array Value) (v vl p5 p6 : Value) (most : Nat) (ls : Bool) (s : Unp) : Prop where
  ou : Ou w B gr 1 120 cs v s.1 most ls vl (if ls = true then s.2 else [])
  c0 : cs[0]? = some (.pointer (some ⟨gb, 0, none⟩))
  rd : Rd w B gb false vb bs p
  hp : p ≤ 8 * bs.length
  hm : most ≤ 4194304
  hl : s.1.length ≤ most
  ht : s.2.length ≤ s.1.length
  hbl : bs.length ≤ 1000000000
  hB : B ≤ w.heap.size
  gg : gr ≠ gb
  vb1 : ∀ k, vb.ownBlock = some k → k ≠ gr ∧ v.ownBlock ≠ some k ∧ vl.ownBlock ≠ some k
  gb1 : v.ownBlock ≠ some gb ∧ vl.ownBlock ≠ some gb
  k5 : cs[5]? = some p5
  k6 : cs[6]? = some p6
  nd : ∀ k, D k → k < w.heap.size ∧ k ≠ gr ∧ k ≠ gb ∧ v.ownBlock ≠ some k ∧ vl.ownBlock ≠ some k ∧ vb.ownBlock ≠ some k
section
variable {w w' : World} {D : Nat → Prop} {B gr gb p q : Nat} {vb : Value} {bs : List UInt8} {cs : Array Value} {v vl p5 p6 : Value} {most : Nat} {ls : Bool} {s : Unp}
theorem Irx.mono (h : Irx w D B gr gb vb bs p cs v vl p5 p6 most ls s) (hb : Below w.heap.size w w') : Irx w' D B gr gb vb bs p cs v vl p5 p6 most ls s :=
  ⟨h.ou.below hb, h.c0, h.rd.mono hb, h.hp, h.hm, h.hl, h.ht, h.hbl, Nat.le_trans h.hB hb.size, h.gg, h.vb1, h.gb1, h.k5, h.k6,
    fun k hk => ⟨Nat.lt_of_lt_of_le (h.nd k hk).1 hb.size, (h.nd k hk).2⟩⟩
/-- The bits' place alone has changed. -/
theorem Irx.bits (h : Irx w D B gr gb vb bs p cs v vl p5 p6 most ls s) (rd : Rd w' B gb false vb bs q) (hq : q ≤ 8 * bs.length) (c : Ch w w' (fun k => k = gb)) : Irx w' D B gr gb vb bs q cs v vl p5 p6 most ls s ∧ Ch w w' (fun k => ¬ D k) := by
  have hz := c.size
  refine ⟨⟨⟨(c.block gr h.ou.lt h.gg).trans h.ou.row, h.ou.k0, h.ou.k1, h.ou.k2, h.ou.k3, c.own h.ou.own (fun k hk e => h.gb1.1 (e ▸ hk)), c.own h.ou.ol (fun k hk e => h.gb1.2 (e ▸ hk)), h.ou.n1, h.ou.n2, h.ou.n3⟩, h.c0, rd, hq, h.hm, h.hl, h.ht, h.hbl, Nat.le_trans h.hB hz, h.gg, h.vb1, h.gb1, h.k5, h.k6, fun k hk => ⟨Nat.lt_of_lt_of_le (h.nd k hk).1 hz, (h.nd k hk).2⟩⟩, ?_⟩
  exact c.wide (fun k hk => .inl (fun hd => (h.nd k hd).2.2.1 hk))
/-- The output has grown. -/
theorem Irx.out {s' : Unp} (h : Irx w D B gr gb vb bs p cs v vl p5 p6 most ls s) (g : Og w w' B gr 1 120 cs v vl s'.1 most ls (if ls = true then s'.2 else [])) (hl : s'.1.length ≤ most) (ht : s'.2.length ≤ s'.1.length) :
    (∃ cs' v' vl', Irx w' D B gr gb vb bs p cs' v' vl' p5 p6 most ls s') ∧ Ch w w' (fun k => ¬ D k) := by
  obtain ⟨cs', v', vl', h1, h2, h3, h4, h5, c⟩ := g
  have hz := c.size
  have hT : ∀ k, D k → ¬ (k = gr ∨ v.ownBlock = some k ∨ vl.ownBlock = some k) := fun k hk e => by
    obtain ⟨_, n1, _, n3, n4, _⟩ := h.nd k hk
    rcases e with e | e | e
    · exact n1 e
    · exact n3 e
    · exact n4 e
  have hgb := h.rd.lt
  have hgT : ¬ (gb = gr ∨ v.ownBlock = some gb ∨ vl.ownBlock = some gb) := fun e => by
    rcases e with e | e | e
    · exact h.gg e.symm
    · exact h.gb1.1 e
    · exact h.gb1.2 e
  refine ⟨⟨cs', v', vl', h1, (h3 0 (by omega) (by omega)).trans h.c0, h.rd.kept c hgT (fun k hk e => ?_), h.hp, h.hm, hl, ht, h.hbl, Nat.le_trans h.hB hz, h.gg, fun k hk => ⟨(h.vb1 k hk).1, fun e => ?_, fun e => ?_⟩, ⟨fun e => ?_, fun e => ?_⟩, (h3 5 (by omega) (by omega)).trans h.k5, (h3 6 (by omega) (by omega)).trans h.k6, fun k hk => ?_⟩, c.wide (fun k hk => .inl (fun hd => hT k hd hk))⟩
  · obtain ⟨n1, n2, n3⟩ := h.vb1 k hk
    rcases e with e | e | e
    · exact n1 e
    · exact n2 e
    · exact n3 e
  · rcases h4 k e with e | e
    · exact (h.vb1 k hk).2.1 e
    · have := (h.rd.own.lt k hk).2; omega
  · rcases h5 k e with e | e
    · exact (h.vb1 k hk).2.2 e
    · have := (h.rd.own.lt k hk).2; omega
  · rcases h4 gb e with e | e
    · exact h.gb1.1 e
    · omega
  · rcases h5 gb e with e | e
    · exact h.gb1.2 e
    · omega
  · obtain ⟨n0, n1, n2, n3, n4, n5⟩ := h.nd k hk
    refine ⟨by omega, n1, n2, fun e => ?_, fun e => ?_, n5⟩
    · rcases h4 k e with e | e
      · exact n3 e
      · omega
    · rcases h5 k e with e | e
      · exact n4 e
      · omega
theorem Irx.less {D' : Nat → Prop} (h : Irx w D B gr gb vb bs p cs v vl p5 p6 most ls s) (hD : ∀ k, D' k → D k) : Irx w D' B gr gb vb bs p cs v vl p5 p6 most ls s :=
  ⟨h.ou, h.c0, h.rd, h.hp, h.hm, h.hl, h.ht, h.hbl, h.hB, h.gg, h.vb1, h.gb1, h.k5, h.k6, fun k hk => h.nd k (hD k hk)⟩
/-- What was made since is kept, too. -/
theorem Irx.new (h : Irx w D B gr gb vb bs p cs v vl p5 p6 most ls s) (hb : Below w.heap.size w w') : Irx w' (fun k => D k ∨ (w.heap.size ≤ k ∧ k < w'.heap.size)) B gr gb vb bs p cs v vl p5 p6 most ls s := by
  have k := h.mono hb
  refine ⟨k.ou, k.c0, k.rd, k.hp, k.hm, k.hl, k.ht, k.hbl, k.hB, k.gg, k.vb1, k.gb1, k.k5, k.k6, fun j hj => ?_⟩
  rcases hj with hj | ⟨j1, j2⟩
  · exact k.nd j hj
  · exact ⟨j2, fun e => by have := h.ou.lt; omega, fun e => by have := h.rd.lt; omega, fun e => by have := (h.ou.own.lt j e).2; omega, fun e => by have := (h.ou.ol.lt j e).2; omega, fun e => by have := (h.rd.own.lt j e).2; omega⟩
/-- A block that is kept may be written by its owner. -/
theorem Irx.touch {x : Nat} (h : Irx w D B gr gb vb bs p cs v vl p5 p6 most ls s) (c : Ch w w' (fun k => k = x)) (hx : D x) : Irx w' D B gr gb vb bs p cs v vl p5 p6 most ls s := by
  obtain ⟨n0, n1, n2, n3, n4, n5⟩ := h.nd x hx
  have hz := c.size
  exact ⟨⟨(c.block gr h.ou.lt (fun e => n1 e.symm)).trans h.ou.row, h.ou.k0, h.ou.k1, h.ou.k2, h.ou.k3, c.own h.ou.own (fun k hk e => n3 (e ▸ hk)), c.own h.ou.ol (fun k hk e => n4 (e ▸ hk)), h.ou.n1, h.ou.n2, h.ou.n3⟩, h.c0, h.rd.kept c (fun e => n2 e.symm) (fun k hk e => n5 (e ▸ hk)), h.hp, h.hm, h.hl, h.ht, h.hbl, Nat.le_trans h.hB hz, h.gg, h.vb1, h.gb1, h.k5, h.k6,
    fun k hk => ⟨Nat.lt_of_lt_of_le (h.nd k hk).1 hz, (h.nd k hk).2⟩⟩
end
def Ir (w : World) (D : Nat → Prop) (B gr gb : Nat) (p5 p6 : Value) (bs : List UInt8) (p most : Nat) (ls : Bool) (s : Unp) : Prop := ∃ vb cs v vl, Irx w D B gr gb vb bs p cs v vl p5 p6 most ls s
/-- What a method answers that answers an error alone. -/
def IrPost (w : World) (D : Nat → Prop) (B gr gb : Nat) (p5 p6 : Value) (bs : List UInt8) (most : Nat) (ls : Bool) (r : Ip.Rs Unp) (e : Ending) (w' : World) : Prop :=
  match r with
  | .ok s q => e = .returned .nilIface ∧ Ir w' D B gr gb p5 p6 bs q most ls s ∧ Ch w w' (fun k => ¬ D k)
  | .err n => (n == 0) = false ∧ e = .returned (.iface 39 (.int .i64 n)) ∧ Ch w w' (fun k => ¬ D k)
end Go.Proofs.YtfgpmccmalddjaaDoor
end

section
namespace Go.Proofs.YtfgpmccmalddjaaDoor
open Go.RowKit
namespace Sy
def st (p g : Nat) : Nat × Nat := if p < g then (p, 0) else ((g + p % g) * 2 ^ (p / g - 1), p / g - 1)
end Sy
theorem start_any (p g : Nat) (w : World) (hp : p < 30) (hg : g = 2 ∨ g = 4) :
    Calls Tryd.prog 115 #[.int .i64 (p : Nat), .int .i64 (g : Nat)] w fun e w' => e = .returned (.tuple #[.int .i64 ((Sy.st p g).1 : Nat), .int .i64 ((Sy.st p g).2 : Nat)]) ∧ w = w' := by
  by_cases hpg : p < g
  · have e : Sy.st p g = (p, 0) := by unfold Sy.st; rw [if_pos hpg]
    rw [e]
    have d0 : decide (p < g) = true := by simpa using hpg
    go_enter Tryd.func115, Tryd.ntmps115
    go_wp2
    go_ret2
    exact ⟨rfl, rfl⟩
  · have e : Sy.st p g = ((g + p % g) * 2 ^ (p / g - 1), p / g - 1) := by unfold Sy.st; rw [if_neg hpg]
    rw [e]
    have d0 : decide (p < g) = false := by simpa using hpg
    have hq : p / g < 15 := by rcases hg with rfl | rfl <;> omega
    have hq1 : 1 ≤ p / g := by rcases hg with rfl | rfl <;> omega
    have hr : p % g < 4 := by rcases hg with rfl | rfl <;> omega
    have hg0 : ((g : Int) == 0) = false := by rcases hg with rfl | rfl <;> rfl
    have hp2 : 2 ^ (p / g - 1) ≤ 2 ^ 14 := Nat.pow_le_pow_right (by omega) (by omega)
    have hb : (g + p % g) * 2 ^ (p / g - 1) ≤ 8 * 16384 := Nat.mul_le_mul (by omega) hp2
    have hw : wrap64 (((g : Int) + (p : Int) % (g : Int)) * 2 ^ (p / g - 1)) = (((g + p % g) * 2 ^ (p / g - 1) : Nat) : Int) := by
      rw [IntWalk.wrap64_in]
      · simp
      · have e2 : ((g : Int) + (p : Int) % (g : Int)) * 2 ^ (p / g - 1) = (((g + p % g) * 2 ^ (p / g - 1) : Nat) : Int) := by simp
        rw [e2]; omega
    have hs : (p : Int) / (g : Int) - 1 = ((p / g - 1 : Nat) : Int) := by omega
    go_enter Tryd.func115, Tryd.ntmps115
    go_wp2
    go_ret2
    exact ⟨by rw [hw]; rfl, rfl⟩
namespace Sy
/-- A length symbol's base and extra bits. -/
def lb (s : Nat) : Nat × Nat := if s = 28 then (258, 0) else (3 + (st s 4).1, (st s 4).2)
def db (s : Nat) : Nat × Nat := (1 + (st s 2).1, (st s 2).2)
def lbV (s : Int) : Value := if 257 ≤ s ∧ s ≤ 285 then .tuple #[.int .i64 ((lb (s - 257).toNat).1 : Nat), .int .i64 ((lb (s - 257).toNat).2 : Nat), .bool true] else .tuple #[.int .i64 0, .int .i64 0, .bool false]
def dbV (s : Int) : Value := if 0 ≤ s ∧ s ≤ 29 then .tuple #[.int .i64 ((db s.toNat).1 : Nat), .int .i64 ((db s.toNat).2 : Nat), .bool true] else .tuple #[.int .i64 0, .int .i64 0, .bool false]
theorem st_lt (p g : Nat) (hp : p < 30) (hg : g = 2 ∨ g = 4) : (st p g).1 ≤ 131072 ∧ (st p g).2 ≤ 14 := by
  unfold st
  split
  · exact ⟨by show p ≤ _; omega, by show 0 ≤ _; omega⟩
  · have hp2 : 2 ^ (p / g - 1) ≤ 2 ^ 14 := Nat.pow_le_pow_right (by omega) (by rcases hg with rfl | rfl <;> omega)
    exact ⟨Nat.mul_le_mul (show g + p % g ≤ 8 by rcases hg with rfl | rfl <;> omega) hp2, by rcases hg with rfl | rfl <;> (show _ / _ - 1 ≤ 14; omega)⟩
end Sy
theorem lengthBase_any (s : Int) (w : World) (hw : (Lit.int .i64 s).wf = true) :
    Calls Tryd.prog 108 #[.int .i64 s] w fun e w' => e = .returned (Sy.lbV s) ∧ w = w' := by
  go_enter Tryd.func108, Tryd.ntmps108
  by_cases h1 : s < 257
  · have e : Sy.lbV s = .tuple #[.int .i64 0, .int .i64 0, .bool false] := by unfold Sy.lbV; rw [if_neg (by omega)]
    rw [e]
    have d1 : decide (s < 257) = true := by simpa using h1
    go_wp2
    go_ret3
    exact ⟨rfl, rfl⟩
  have d1 : decide (s < 257) = false := by simpa using h1
  by_cases h2 : 285 < s
  · have e : Sy.lbV s = .tuple #[.int .i64 0, .int .i64 0, .bool false] := by unfold Sy.lbV; rw [if_neg (by omega)]
    rw [e]
    have d2 : decide (285 < s) = true := by simpa using h2
    go_wp2
    go_ret3
    exact ⟨rfl, rfl⟩
  have d2 : decide (285 < s) = false := by simpa using h2
  obtain ⟨p, rfl⟩ : ∃ p : Nat, s = (p : Int) + 257 := ⟨(s - 257).toNat, by omega⟩
  have e : Sy.lbV ((p : Int) + 257) = .tuple #[.int .i64 ((Sy.lb p).1 : Nat), .int .i64 ((Sy.lb p).2 : Nat), .bool true] := by
    unfold Sy.lbV
    rw [if_pos (by omega), show ((p : Int) + 257 - 257).toNat = p by omega]
  rw [e]
  by_cases h3 : p = 28
  · subst h3
    go_wp2
    go_ret3
    exact ⟨rfl, rfl⟩
  have d3 : ((p : Int) + 257 == 285) = false := by simp; omega
  have es : (p : Int) + 257 - 257 = (p : Int) := by omega
  have hb := Sy.st_lt p 4 (by omega) (.inr rfl)
  have el : Sy.lb p = (3 + (Sy.st p 4).1, (Sy.st p 4).2) := by unfold Sy.lb; rw [if_neg h3]
  have HC := start_any p 4 w (by omega) (.inr rfl)
  rw [el]
  clear el e
  generalize Sy.st p 4 = x at *
  go_wp2_with fail
  refine HC.mono ?_
  rintro e w' ⟨rfl, rfl⟩
  go_wp2
  go_ret3
  exact ⟨rfl, rfl⟩
theorem distBase_any (s : Int) (w : World) (hw : (Lit.int .i64 s).wf = true) :
    Calls Tryd.prog 109 #[.int .i64 s] w fun e w' => e = .returned (Sy.dbV s) ∧ w = w' := by
  go_enter Tryd.func109, Tryd.ntmps109
  by_cases h1 : s < 0
  · have e : Sy.dbV s = .tuple #[.int .i64 0, .int .i64 0, .bool false] := by unfold Sy.dbV; rw [if_neg (by omega)]
    rw [e]
    have d1 : decide (s < 0) = true := by simpa using h1
    go_wp2
    go_ret3
    exact ⟨rfl, rfl⟩
  have d1 : decide (s < 0) = false := by simpa using h1
  by_cases h2 : 29 < s
  · have e : Sy.dbV s = .tuple #[.int .i64 0, .int .i64 0, .bool false] := by unfold Sy.dbV; rw [if_neg (by omega)]
    rw [e]
    have d2 : decide (29 < s) = true := by simpa using h2
    go_wp2
    go_ret3
    exact ⟨rfl, rfl⟩
  have d2 : decide (29 < s) = false := by simpa using h2
  obtain ⟨p, rfl⟩ := Int.eq_ofNat_of_zero_le (show 0 ≤ s by omega)
  have e : Sy.dbV (p : Int) = .tuple #[.int .i64 ((Sy.db p).1 : Nat), .int .i64 ((Sy.db p).2 : Nat), .bool true] := by
    unfold Sy.dbV
    rw [if_pos (by omega), Int.toNat_natCast]
  rw [e]
  have hb := Sy.st_lt p 2 (by omega) (.inl rfl)
  have el : Sy.db p = (1 + (Sy.st p 2).1, (Sy.st p 2).2) := rfl
  have HC := start_any p 2 w (by omega) (.inl rfl)
  rw [el]
  clear el e
  generalize Sy.st p 2 = x at *
  go_wp2_with fail
  refine HC.mono ?_
  rintro e w' ⟨rfl, rfl⟩
  go_wp2
  go_ret3
  exact ⟨rfl, rfl⟩
end Go.Proofs.YtfgpmccmalddjaaDoor
end

section
namespace Go.Proofs.YtfgpmccmalddjaaDoor
open Go.RowKit

namespace Ip
/-- A symbol of a book. -/
def rdP (R : Nat → List Nat) : Pr Int := fun u p => if (Cn.rd (Bk.ks R) (u.drop p)).2.2 = 0 then .ok (Cn.rd (Bk.ks R) (u.drop p)).1 (p + (Cn.rd (Bk.ks R) (u.drop p)).2.1) else .err (Cn.rd (Bk.ks R) (u.drop p)).2.2
def addP (most : Nat) (t : Tok) (s : Unp) : Pr Unp := fun _ p => if (Tk.add most s.1 t).1 = 0 then .ok (Tk.put s.1 t, s.2 ++ [t]) p else .err (Tk.add most s.1 t).1
def aboveP (base extra : Nat) (ok : Bool) : Pr Nat := if ok = true then bind (take extra) (fun n => pure (base + n)) else fail 2
theorem rdAt_le (ks : List (Int × List Bool)) (u : List Bool) : ∀ f n, 1 ≤ n → (Cn.rdAt ks u f n).2.2 = 0 → 1 ≤ (Cn.rdAt ks u f n).2.1 ∧ (Cn.rdAt ks u f n).2.1 ≤ u.length
  | 0, n, h1, h => by simp [Cn.rdAt] at h
  | f + 1, n, h1, h => by
    rw [Cn.rdAt] at h ⊢
    split at h
    · simp at h
    · rename_i hl
      rw [if_neg hl]
      split at h
      · rename_i c hc
        exact ⟨h1, by show n ≤ u.length; omega⟩
      · split at h
        · rename_i hm
          rw [if_pos hm]
          exact rdAt_le ks u f (n + 1) (by omega) h
        · simp at h
theorem rd_le (ks : List (Int × List Bool)) (u : List Bool) (h : (Cn.rd ks u).2.2 = 0) : 1 ≤ (Cn.rd ks u).2.1 ∧ (Cn.rd ks u).2.1 ≤ u.length := by
  unfold Cn.rd at *
  split at h
  · simp at h
  · rename_i hk
    rw [if_neg hk]
    exact rdAt_le ks u 16 1 (by omega) h
end Ip
/-- What a method answers that answers a value and an error. -/
def VPost {α : Type} (w : World) (D : Nat → Prop) (B gr gb : Nat) (p5 p6 : Value) (bs : List UInt8) (most : Nat) (ls : Bool) (s : Unp) (mk : α → Value) (r : Ip.Rs α) (e : Ending) (w' : World) : Prop :=
  match r with
  | .ok a q => e = .returned (.tuple #[mk a, .nilIface]) ∧ Ir w' D B gr gb p5 p6 bs q most ls s ∧ Ch w w' (fun k => ¬ D k)
  | .err n => (n == 0) = false ∧ (∃ x, e = .returned (.tuple #[x, .iface 39 (.int .i64 n)])) ∧ Ch w w' (fun k => ¬ D k)
section
variable {w : World} {D : Nat → Prop} {B gr gb p most : Nat} {p5 p6 : Value} {bs : List UInt8} {ls : Bool} {s : Unp}
theorem Ir.mono {w' : World} (h : Ir w D B gr gb p5 p6 bs p most ls s) (hb : Below w.heap.size w w') : Ir w' D B gr gb p5 p6 bs p most ls s := by
  obtain ⟨vb, cs, v, vl, h⟩ := h
  exact ⟨vb, cs, v, vl, h.mono hb⟩
theorem Ir.less {D' : Nat → Prop} (h : Ir w D B gr gb p5 p6 bs p most ls s) (hD : ∀ k, D' k → D k) : Ir w D' B gr gb p5 p6 bs p most ls s := by
  obtain ⟨vb, cs, v, vl, h⟩ := h
  exact ⟨vb, cs, v, vl, h.less hD⟩
theorem Ir.cell (h : Ir w D B gr gb p5 p6 bs p most ls s) : w.cell? ⟨gr, 0, none⟩ = some (.pointer (some ⟨gb, 0, none⟩)) := by
  obtain ⟨vb, cs, v, vl, h⟩ := h
  rw [cell_of_row _ _ _ _ _ (0, 0) h.ou.row]; exact h.c0
theorem Ir.new {w' : World} (h : Ir w D B gr gb p5 p6 bs p most ls s) (hb : Below w.heap.size w w') : Ir w' (fun k => D k ∨ (w.heap.size ≤ k ∧ k < w'.heap.size)) B gr gb p5 p6 bs p most ls s := by
  obtain ⟨vb, cs, v, vl, h⟩ := h
  exact ⟨vb, cs, v, vl, h.new hb⟩
theorem Ir.touch {w' : World} {x : Nat} (h : Ir w D B gr gb p5 p6 bs p most ls s) (c : Ch w w' (fun k => k = x)) (hx : D x) : Ir w' D B gr gb p5 p6 bs p most ls s := by
  obtain ⟨vb, cs, v, vl, h⟩ := h
  exact ⟨vb, cs, v, vl, h.touch c hx⟩
/-- Back to what the caller keeps. -/
theorem ch_out {w w1 w2 : World} {D : Nat → Prop} (hb : Below w.heap.size w w1) (c : Ch w1 w2 (fun k => ¬ (D k ∨ (w.heap.size ≤ k ∧ k < w1.heap.size)))) : Ch w w2 (fun k => ¬ D k) :=
  (Ch.of_below hb).trans c (fun n hn => .inl (fun hd => hn (.inl hd)))
theorem ch_below {w w' : World} {T : Nat → Prop} (hb : Below w.heap.size w w') : Ch w w' T := Ch.of_below hb
theorem irTake (h : Ir w D B gr gb p5 p6 bs p most ls s) (c : Nat) (hc : c ≤ 32) :
    Calls Tryd.prog 82 #[.pointer (some ⟨gb, 0, none⟩), .int .i64 (c : Nat)] w (VPost w D B gr gb p5 p6 bs most ls s (fun n : Nat => .int .i64 (n : Nat)) (Ip.take c (lob bs) p)) := by
  obtain ⟨vb, cs, v, vl, h⟩ := h
  have hbl := h.hbl
  have hp := h.hp
  by_cases hf : p + c ≤ 8 * bs.length
  · refine (takeR_ok w B gb false vb bs p c h.rd h.hB (by omega) hc hf).mono ?_
    rintro e w' ⟨rfl, hrd, hch⟩
    obtain ⟨h1, h2⟩ := h.bits hrd hf hch
    unfold VPost Ip.take
    rw [if_pos (by rw [lob_length]; exact hf)]
    exact ⟨rfl, ⟨vb, cs, v, vl, h1⟩, h2⟩
  · refine (take_short w B gb false vb bs p c h.rd hp (by omega) hc (by omega)).mono ?_
    rintro e w' ⟨rfl, hb⟩
    unfold VPost Ip.take
    rw [if_neg (by rw [lob_length]; exact hf)]
    exact ⟨by decide, ⟨_, rfl⟩, ch_below hb⟩
theorem irReadC (h : Ir w D B gr gb p5 p6 bs p most ls s) {g : Nat} {R : Nat → List Nat} (hb : Bz w D g R) (hG : Bk.Good R) :
    Calls Tryd.prog 95 #[.pointer (some ⟨g, 0, none⟩), .pointer (some ⟨gb, 0, none⟩)] w (fun e w' => VPost w D B gr gb p5 p6 bs most ls s (fun n : Int => .int .i64 n) (Ip.rdP R (lob bs) p) e w' ∧ w'.cell? ⟨gr, 0, none⟩ = some (.pointer (some ⟨gb, 0, none⟩))) := by
  obtain ⟨vb, cs, v, vl, h⟩ := h
  obtain ⟨ws, hnb⟩ : ∃ ws, ∀ wr, Ch w wr (fun k => k = gb) → ∃ (B2 : Nat) (fs : Nat → Int) (vs : Nat → Value) (wv : Value), (∀ n, n < 17 → fs n = (Bk.fst R n : Nat)) ∧ Bk.NB wr B2 g fs vs wv (Bk.nx R 17 : Nat) R ws := by
    obtain ⟨B2, fs, vs, wv, ws, k1, k2, k3, k4, k5'⟩ := hb
    exact ⟨ws, fun wr c => ⟨B2, fs, vs, wv, k1, k2.kept c (fun e => (h.nd g k3).2.2.1 e) (fun k hk e => (h.nd k (k4 k hk)).2.2.1 e) (fun k hk e => (h.nd k (k5' k hk)).2.2.1 e)⟩⟩
  refine (Bk.read_core w g R ws B gb hnb hG false vb bs p h.rd h.hB h.hp h.hbl).mono ?_
  rintro e w' ⟨rfl, hrd, hch⟩
  refine ⟨?_, ?_⟩
  rotate_left
  · rw [cell_of_row _ _ _ _ _ (0, 0) ((hch.block gr h.ou.lt h.gg).trans h.ou.row)]; exact h.c0
  unfold VPost Ip.rdP
  have e0 : lob bs = Bt.rbits false bs := rfl
  rw [e0]
  have hle := Ip.rd_le (Bk.ks R) ((Bt.rbits false bs).drop p)
  rw [List.length_drop, Bt.rbits_length] at hle
  have hp := h.hp
  generalize Cn.rd (Bk.ks R) ((Bt.rbits false bs).drop p) = r at *
  obtain ⟨x, n, k⟩ := r
  dsimp only at *
  by_cases hk : k = 0
  · subst hk
    obtain ⟨l1, l2⟩ := hle rfl
    rw [if_pos rfl]
    obtain ⟨h1, h2⟩ := h.bits hrd (by omega) hch
    exact ⟨rfl, ⟨vb, cs, v, vl, h1⟩, h2⟩
  · rw [if_neg hk]
    refine ⟨by simpa using hk, ⟨_, by unfold Bk.errV; rw [if_neg hk]⟩, hch.wide (fun j hj => .inl (fun hd => (h.nd j hd).2.2.1 hj))⟩
theorem irRead (h : Ir w D B gr gb p5 p6 bs p most ls s) {g : Nat} {R : Nat → List Nat} (hb : Bz w D g R) (hG : Bk.Good R) :
    Calls Tryd.prog 95 #[.pointer (some ⟨g, 0, none⟩), .pointer (some ⟨gb, 0, none⟩)] w (VPost w D B gr gb p5 p6 bs most ls s (fun n : Int => .int .i64 n) (Ip.rdP R (lob bs) p)) :=
  (irReadC h hb hG).mono (fun _ _ h => h.1)
theorem irAdd (h : Ir w D B gr gb p5 p6 bs p most ls s) (t : Tok) (ht : Tk.isTok t = true) :
    Calls Tryd.prog 92 #[.pointer (some ⟨gr, 1, none⟩), .agg #[.int .i64 t.1, .int .i64 t.2]] w (IrPost w D B gr gb p5 p6 bs most ls (Ip.addP most t s (lob bs) p)) := by
  obtain ⟨vb, cs, v, vl, h⟩ := h
  have hl := h.hl
  have hm := h.hm
  have htl := h.ht
  refine (add_any t h.ou ht h.hm h.hl (by cases ls <;> simp <;> omega) h.hB).mono ?_
  rintro e w' (⟨n, h1, h2, rfl, hb⟩ | ⟨h1, rfl, hg⟩)
  · unfold IrPost Ip.addP
    rw [h1]
    have h0 : n ≠ 0 := by simpa using h2
    rw [if_neg h0]
    exact ⟨h2, rfl, ch_below hb⟩
  · unfold IrPost Ip.addP
    have hpl := Tk.put_length s.1 t
    have hsz : 1 ≤ Tk.size t := by
      have := Tk.tok_range ht
      unfold Tk.size
      split
      · omega
      · rename_i hx; have := this.2.2.2.2.2 hx; omega
    have hle : (Tk.put s.1 t).length ≤ most := Tk.add_le h1
    rw [h1, if_pos rfl]
    have hg2 : Og w w' B gr 1 120 cs v vl (Tk.put s.1 t, s.2 ++ [t]).1 most ls (if ls = true then (Tk.put s.1 t, s.2 ++ [t]).2 else []) := by
      cases ls
      · exact hg
      · exact hg
    obtain ⟨⟨cs', v', vl', k1⟩, k2⟩ := h.out hg2 hle (by show (s.2 ++ [t]).length ≤ (Tk.put s.1 t).length; rw [List.length_append]; simp; omega)
    exact ⟨rfl, ⟨vb, cs', v', vl', k1⟩, k2⟩
/-- (*reader).above. -/
theorem above_any (h : Ir w D B gr gb p5 p6 bs p most ls s) (base extra : Nat) (ok : Bool) (hb : base ≤ 1000000) (he : extra ≤ 32) :
    Calls Tryd.prog 107 #[.pointer (some ⟨gr, 0, none⟩), .int .i64 (base : Nat), .int .i64 (extra : Nat), .bool ok] w (VPost w D B gr gb p5 p6 bs most ls s (fun n : Nat => .int .i64 (n : Nat)) (Ip.aboveP base extra ok (lob bs) p)) := by
  have g0 := h.cell
  have HT := Lib.hid (irTake h extra he)
  have hlt : ∀ n q, Ip.take extra (lob bs) p = .ok n q → n < 4294967296 := fun n q hx => by
    unfold Ip.take at hx
    split at hx
    · cases hx
      have h1 := Bt.num_lt false (((lob bs).drop p).take extra)
      have h2 : (((lob bs).drop p).take extra).length ≤ extra := by rw [List.length_take]; omega
      have h3 : 2 ^ (((lob bs).drop p).take extra).length ≤ 2 ^ 32 := Nat.pow_le_pow_right (by omega) (by omega)
      omega
    · cases hx
  have HLT := Lib.hid hlt
  have HN := Lib.hid h
  clear h hlt
  cases ok
  · have HP : Hid (VPost w D B gr gb p5 p6 bs most ls s (fun n : Nat => .int .i64 (n : Nat)) (Ip.aboveP base extra false (lob bs) p) (.returned (.tuple #[.int .i64 0, .iface 39 (.int .i64 2)])) w) := Lib.hid ⟨by decide, ⟨_, rfl⟩, Ch.refl _ _⟩
    go_enter Tryd.func107, Tryd.ntmps107
    go_wp2
    go_ret2
    exact HP.out
  · have HE : Hid (Ip.aboveP base extra true (lob bs) p = Ip.bind (Ip.take extra) (fun n => Ip.pure (base + n)) (lob bs) p) := Lib.hid rfl
    cases hx : Ip.take extra (lob bs) p with
    | err n =>
      rw [hx] at HT
      have HX := Lib.hid hx
      clear hx
      go_enter Tryd.func107, Tryd.ntmps107
      go_wp2_with fail
      refine HT.out.mono ?_
      rintro e w' ⟨hn, ⟨x, rfl⟩, hch⟩
      have HP : Hid (VPost w D B gr gb p5 p6 bs most ls s (fun n : Nat => .int .i64 (n : Nat)) (Ip.aboveP base extra true (lob bs) p) (.returned (.tuple #[.int .i64 0, .iface 39 (.int .i64 n)])) w') := Lib.hid (by
        rw [HE.out]; unfold Ip.bind; rw [HX.out]; exact ⟨hn, ⟨_, rfl⟩, hch⟩)
      clear hch hn
      go_wp2
      go_ret2
      exact HP.out
    | ok n q =>
      rw [hx] at HT
      have hn := HLT.out n q hx
      have HX := Lib.hid hx
      clear hx
      go_enter Tryd.func107, Tryd.ntmps107
      go_wp2_with fail
      refine HT.out.mono ?_
      rintro e w' ⟨rfl, hir, hch⟩
      have HP : Hid (VPost w D B gr gb p5 p6 bs most ls s (fun n : Nat => .int .i64 (n : Nat)) (Ip.aboveP base extra true (lob bs) p) (.returned (.tuple #[.int .i64 ((base : Int) + (n : Int)), .nilIface])) w') := Lib.hid (by
        rw [HE.out]; unfold Ip.bind; rw [HX.out]; exact ⟨by simp, hir, hch⟩)
      clear hch hir
      go_wp2
      go_ret2
      exact HP.out
end
end Go.Proofs.YtfgpmccmalddjaaDoor
end
