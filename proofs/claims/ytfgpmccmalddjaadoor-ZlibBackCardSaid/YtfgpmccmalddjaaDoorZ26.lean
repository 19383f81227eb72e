/- A book's codes and the document's. Numbers as a literal. The document's tables of bases: their contracts. The document's codes of a book, in a zone; a symbol by them. The document's reader: a block's symbols. -/
import Derived.Test.YtfgpmccmalddjaaDoorZ25
import Derived.Deep.RegionHeld3
set_option linter.unusedSimpArgs false
set_option linter.unusedVariables false
section
namespace Go.Proofs.YtfgpmccmalddjaaDoor
open Go.RowKit
namespace Bk
theorem ks_of (cs : List Cd) (R : Nat → List Nat) (h1 : cs.map Cd.s = (seq R 17).map fun x => (x.s : Int)) (h2 : cs.map Cd.b = (seq R 17).map It.bits) : cs.map Cd.k = ks R := by
  have hl : cs.length = (seq R 17).length := by have := congrArg List.length h1; simpa using this
  apply List.ext_getElem
  · simp [ks, hl]
  · intro i a b
    rw [List.length_map] at a
    have e1 : (cs.map Cd.s)[i]'(by simpa using a) = ((seq R 17).map fun x => (x.s : Int))[i]'(by simp; omega) := by simp only [h1]
    have e2 : (cs.map Cd.b)[i]'(by simpa using a) = ((seq R 17).map It.bits)[i]'(by simp; omega) := by simp only [h2]
    simp only [List.getElem_map] at e1 e2
    simp only [ks, List.getElem_map, Cd.k, e1, e2]
end Bk
end Go.Proofs.YtfgpmccmalddjaaDoor
end

section
namespace Go.Proofs.YtfgpmccmalddjaaDoor
open Go.RowKit

theorem is_lit (w : World) (l : List Int) (n : Nat) (t : TypeId) (cs : Array Value) (hcs : (ivs l).toArray = cs) (hn : l.length = n) (hw : Wf l) : Is .i64 (w.alloc (.cells cs t)) (some ⟨w.heap.size, 0, none⟩) n n l := by
  subst hcs
  refine ⟨hn, Nat.le_refl _, fun h => by simp at h, fun i hi => ⟨w.heap.size, 0, rfl, by simp, ?_⟩, hw⟩
  rw [cell_of_row _ _ _ _ t (0, 0) (heap_alloc_last w _), Nat.zero_add, List.getElem?_toArray]
  exact ivs_get l i (by omega)
/-- The same, at an address that is spelled otherwise (w.heap.size + 1 behind one alloc: Array.size_push). -/
theorem is_lit_at (w : World) (g : Nat) (hg : w.heap.size = g) (l : List Int) (n : Nat) (t : TypeId) (cs : Array Value) (hcs : (ivs l).toArray = cs) (hn : l.length = n) (hw : Wf l) : Is .i64 (w.alloc (.cells cs t)) (some ⟨g, 0, none⟩) n n l := by
  subst hg; exact is_lit w l n t cs hcs hn hw
end Go.Proofs.YtfgpmccmalddjaaDoor
end

section
namespace Go.Proofs.YtfgpmccmalddjaaDoor
open Go.RowKit
namespace Sy
def lensL : List Int := [3, 4, 5, 6, 7, 8, 9, 10, 11, 13, 15, 17, 19, 23, 27, 31, 35, 43, 51, 59, 67, 83, 99, 115, 131, 163, 195, 227, 258]
def lensX : List Int := [0, 0, 0, 0, 0, 0, 0, 0, 1, 1, 1, 1, 2, 2, 2, 2, 3, 3, 3, 3, 4, 4, 4, 4, 5, 5, 5, 5, 0]
def distL : List Int := [1, 2, 3, 4, 5, 7, 9, 13, 17, 25, 33, 49, 65, 97, 129, 193, 257, 385, 513, 769, 1025, 1537, 2049, 3073, 4097, 6145, 8193, 12289, 16385, 24577]
def distX : List Int := [0, 0, 0, 0, 1, 1, 2, 2, 3, 3, 4, 4, 5, 5, 6, 6, 7, 7, 8, 8, 9, 9, 10, 10, 11, 11, 12, 12, 13, 13]
theorem lens_eq : ∀ p, p < 29 → lensL.getD p 0 = ((lb p).1 : Int) ∧ lensX.getD p 0 = ((lb p).2 : Int) := by decide +kernel
theorem dist_eq : ∀ p, p < 30 → distL.getD p 0 = ((db p).1 : Int) ∧ distX.getD p 0 = ((db p).2 : Int) := by decide +kernel
/-- Two rows of numbers in memory. -/
structure Two (w : World) (g h n : Nat) (f : Nat → Nat × Nat) : Prop where
  lg : g < w.heap.size
  lh : h < w.heap.size
  fst : ∀ i, i < n → w.cell? ⟨g, i, none⟩ = some (.int .i64 ((f i).1 : Nat))
  snd : ∀ i, i < n → w.cell? ⟨h, i, none⟩ = some (.int .i64 ((f i).2 : Nat))
theorem Two.mono {w w' : World} {g h n : Nat} {f : Nat → Nat × Nat} (H : Two w g h n f) (hb : Below w.heap.size w w') : Two w' g h n f :=
  ⟨Nat.lt_of_lt_of_le H.lg hb.size, Nat.lt_of_lt_of_le H.lh hb.size, fun i hi => (hb.cell (p := ⟨g, i, none⟩) H.lg).trans (H.fst i hi), fun i hi => (hb.cell (p := ⟨h, i, none⟩) H.lh).trans (H.snd i hi)⟩
theorem two_new (w : World) (n : Nat) (f : Nat → Nat × Nat) (x y : List Int) (t : TypeId) (hx : x.length = n) (hy : y.length = n) (h : ∀ p, p < n → x.getD p 0 = ((f p).1 : Int) ∧ y.getD p 0 = ((f p).2 : Int)) (cs ds : Array Value) (hc : (ivs x).toArray = cs) (hd : (ivs y).toArray = ds) :
    Two ((w.alloc (.cells cs t)).alloc (.cells ds t)) w.heap.size (w.heap.size + 1) n f := by
  subst hc
  subst hd
  have e2 : (w.alloc (.cells (ivs x).toArray t)).heap.size = w.heap.size + 1 := by simp
  refine ⟨by simp; omega, by simp, fun i hi => ?_, fun i hi => ?_⟩
  · have hb := below_alloc (w.alloc (.cells (ivs x).toArray t)) (.cells (ivs y).toArray t)
    rw [hb.cell (p := ⟨w.heap.size, i, none⟩) (by show w.heap.size < _; rw [e2]; omega), cell_of_row _ _ _ _ t (0, 0) (heap_alloc_last w _), List.getElem?_toArray, ivs_get _ _ (by omega), (h i hi).1]
  · rw [← e2, cell_of_row _ _ _ _ t (0, 0) (heap_alloc_last _ _), List.getElem?_toArray, ivs_get _ _ (by omega), (h i hi).2]
def TwoPost (w : World) (n : Nat) (f : Nat → Nat × Nat) (e : Ending) (w' : World) : Prop := ∃ g h, e = .returned (.tuple #[.slice (some ⟨g, 0, none⟩) n n, .slice (some ⟨h, 0, none⟩) n n]) ∧ Two w' g h n f ∧ Below w.heap.size w w'
end Sy
theorem lens_any (w : World) : Calls Tryd.prog 54 #[] w (Sy.TwoPost w 29 Sy.lb) := by
  have HT := Lib.hid (Sy.two_new w 29 Sy.lb Sy.lensL Sy.lensX 3 rfl rfl Sy.lens_eq _ _ rfl rfl)
  go_enter Tryd.func54, Tryd.ntmps54
  go_wp2
  go_ret2
  exact ⟨_, _, rfl, HT.out, below_alloc2 _ _ _⟩
theorem dists_any (w : World) : Calls Tryd.prog 55 #[] w (Sy.TwoPost w 30 Sy.db) := by
  have HT := Lib.hid (Sy.two_new w 30 Sy.db Sy.distL Sy.distX 3 rfl rfl Sy.dist_eq _ _ rfl rfl)
  go_enter Tryd.func55, Tryd.ntmps55
  go_wp2
  go_ret2
  exact ⟨_, _, rfl, HT.out, below_alloc2 _ _ _⟩
end Go.Proofs.YtfgpmccmalddjaaDoor
end

section
namespace Go.Proofs.YtfgpmccmalddjaaDoor
open Go.RowKit

/-- The codes of a book, that lie in a zone. -/
def Bc (w : World) (F : Nat → Prop) (v : Value) (R : Nat → List Nat) : Prop :=
  ∃ B n cs, Cds w B v n cs ∧ n ≤ 1000000 ∧ (∀ i, i < n → (cth cs i).b.length ≤ 16) ∧ cs.map Cd.k = Bk.ks R ∧ (∀ k, v.ownBlock = some k → F k) ∧ ∀ i, i < n → ∀ ad, (cth cs i).a = some ad → F ad.block
theorem Bc.kept {w w' : World} {F T : Nat → Prop} {v : Value} {R : Nat → List Nat} (h : Bc w F v R) (c : Ch w w' T) (hT : ∀ k, F k → ¬ T k) : Bc w' F v R := by
  obtain ⟨B, n, cs, h1, h2, h3, h4, h5, h6⟩ := h
  exact ⟨B, n, cs, h1.kept c (fun k hk => hT k (h5 k hk)) (fun i hi ad e => hT _ (h6 i hi ad e)), h2, h3, h4, h5, h6⟩
theorem Bc.wide {w : World} {F G : Nat → Prop} {v : Value} {R : Nat → List Nat} (h : Bc w F v R) (hG : ∀ k, F k → G k) : Bc w G v R := by
  obtain ⟨B, n, cs, h1, h2, h3, h4, h5, h6⟩ := h
  exact ⟨B, n, cs, h1, h2, h3, h4, fun k hk => hG k (h5 k hk), fun i hi ad e => hG _ (h6 i hi ad e)⟩
theorem syms_small (l : List Int) (h : l.length ≤ 512) : (Cn.syms l).length ≤ 1000000 := by
  have : (Cn.syms l).length ≤ 512 * 16 := by
    unfold Cn.syms
    have : ∀ m, (Cn.symN l m).length ≤ 512 * m := by
      intro m
      induction m with
      | zero => simp [Cn.symN]
      | succ m ih =>
        rw [Cn.symN_succ, List.length_append, List.length_map]
        have := Cn.row_le l m l.length
        omega
    exact this 16
  omega
theorem sizN_le (l : List Int) : ∀ m, m ≤ 16 → ∀ x ∈ Cn.sizN l m, x ≤ 16 := by
  intro m
  induction m with
  | zero => intro _ x hx; simp [Cn.sizN] at hx
  | succ m ih =>
    intro hm x hx
    rw [Cn.sizN_succ, List.mem_append] at hx
    rcases hx with hx | hx
    · exact ih (by omega) x hx
    · obtain ⟨_, _, rfl⟩ := List.mem_map.1 hx
      omega
theorem bc_new {w w' : World} {l : List Int} {e : Ending} (hf : Cn.freeB l = true) (h : CodesPost w l e w') : ∃ v, e = .returned v ∧ Bc w' (fun k => w.heap.size ≤ k ∧ k < w'.heap.size) v (Bk.rowsL l) ∧ Below w.heap.size w w' := by
  obtain ⟨v, n, cs, rfl, hcd, hs1, hs2, hb⟩ := h
  have hl5 : l.length ≤ 512 := by
    have h1 := hf
    simp only [Cn.freeB, Cn.formB, Bool.and_eq_true, decide_eq_true_eq] at h1
    exact h1.1.1
  refine ⟨v, rfl, ⟨_, n, cs, hcd, ?_, fun i hi => ?_, Bk.ks_of cs _ (by rw [hs1, Bk.syms_of]) (by rw [hs2, Bk.codes_of l hf]), fun k hk => hcd.own.lt k hk, fun i hi ad e => ⟨hcd.lo i hi ad e, (hcd.blk i hi ad e).1⟩⟩, hb⟩
  · have h1 := congrArg List.length hs1
    rw [List.length_map, hcd.hn] at h1
    rw [h1]; exact syms_small l hl5
  · have hm : (cth cs i).b ∈ Cn.codes (Cn.sizes l) := by
      rw [← hs2, List.mem_map]
      refine ⟨cth cs i, ?_, rfl⟩
      have hi' : i < cs.length := by rw [hcd.hn]; exact hi
      simp only [cth, List.getD, List.getElem?_eq_getElem hi', Option.getD_some]
      exact List.getElem_mem hi'
    exact Cn.codes_len _ (sizN_le l 16 (Nat.le_refl _)) _ hm
theorem Sy.Two.kept {w w' : World} {g h n : Nat} {f : Nat → Nat × Nat} {T : Nat → Prop} (H : Sy.Two w g h n f) (c : Ch w w' T) (hg : ¬ T g) (hh : ¬ T h) : Sy.Two w' g h n f :=
  ⟨Nat.lt_of_lt_of_le H.lg c.size, Nat.lt_of_lt_of_le H.lh c.size, fun i hi => (World.cell?_of_block (a := ⟨g, i, none⟩) (c.block g H.lg hg)).trans (H.fst i hi), fun i hi => (World.cell?_of_block (a := ⟨h, i, none⟩) (c.block h H.lh hh)).trans (H.snd i hi)⟩
def LowPost (w : World) (n : Nat) (f : Nat → Nat × Nat) (e : Ending) (w' : World) : Prop := ∃ g h, e = .returned (.tuple #[.slice (some ⟨g, 0, none⟩) n n, .slice (some ⟨h, 0, none⟩) n n]) ∧ Sy.Two w' g h n f ∧ Below w.heap.size w w' ∧ w.heap.size ≤ g ∧ w.heap.size ≤ h
theorem lens_low (w : World) : Calls Tryd.prog 54 #[] w (LowPost w 29 Sy.lb) := by
  have HT := Lib.hid (Sy.two_new w 29 Sy.lb Sy.lensL Sy.lensX 3 rfl rfl Sy.lens_eq _ _ rfl rfl)
  go_enter Tryd.func54, Tryd.ntmps54
  go_wp2
  go_ret2
  exact ⟨_, _, rfl, HT.out, below_alloc2 _ _ _, Nat.le_refl _, Nat.le_succ _⟩
theorem dists_low (w : World) : Calls Tryd.prog 55 #[] w (LowPost w 30 Sy.db) := by
  have HT := Lib.hid (Sy.two_new w 30 Sy.db Sy.distL Sy.distX 3 rfl rfl Sy.dist_eq _ _ rfl rfl)
  go_enter Tryd.func55, Tryd.ntmps55
  go_wp2
  go_ret2
  exact ⟨_, _, rfl, HT.out, below_alloc2 _ _ _, Nat.le_refl _, Nat.le_succ _⟩
section
variable {w : World} {D : Nat → Prop} {B gr : Nat} {a : Option Addr} {cap : Nat} {u : List Bool} {p : Nat} {most : Nat} {v : Value} {s : Unp}
theorem rsym_bc (h : Rn w D B gr a cap u p 0 most s.1.length s.2 v) (hz : 0 < u.length) {vc : Value} {R : Nat → List Nat} (hb : Bc w D vc R) :
    Calls Tryd.prog 56 #[.pointer (some ⟨gr, 0, none⟩), vc] w (RtPost w D B gr a cap u most s (fun z : Int => .int .i64 z) (.int .i64 0) (Ip.rdP R u p)) := by
  obtain ⟨B, n, cs, h1, h2, h3, h4, h5, h6⟩ := hb
  exact rsym_ok h hz h1 h2 h3 h4
end
end Go.Proofs.YtfgpmccmalddjaaDoor
end

section
namespace Go.Proofs.YtfgpmccmalddjaaDoor
open Go.RowKit
attribute [local go_sem] Oper.semAt_some

namespace Ip
section
variable {most : Nat} {RL RD : Nat → List Nat} {s s3 : Unp} {u : List Bool} {q r r3 : Nat} {f : Nat}
theorem syms_end (h1 : rdP RL u q = .ok 256 r) : loop (symStep most RL RD) (f + 1) s u q = .ok s r := by
  show bind (bind (rdP RL) (symK most RD s)) (next (loop (symStep most RL RD) f)) u q = _
  rw [bind2_ok h1]
  show bind (symK most RD s 256) _ u r = _
  unfold symK
  rw [if_pos rfl]; rfl
theorem syms_lit {y : Int} (h1 : rdP RL u q = .ok y r) (hy : y < 256) (h2 : addP most (0, y) s u r = .ok s3 r3) : loop (symStep most RL RD) (f + 1) s u q = loop (symStep most RL RD) f s3 u r3 := by
  show bind (bind (rdP RL) (symK most RD s)) (next (loop (symStep most RL RD) f)) u q = _
  rw [bind2_ok h1]
  unfold symK
  rw [if_neg (by omega), if_neg (by omega)]
  rw [bind2_ok h2]; rfl
theorem syms_far {y : Int} {t : Tok} {r2 : Nat} (h1 : rdP RL u q = .ok y r) (hy : 256 < y) (h2 : matchP RD y u r = .ok t r2) (h3 : addP most t s u r2 = .ok s3 r3) : loop (symStep most RL RD) (f + 1) s u q = loop (symStep most RL RD) f s3 u r3 := by
  show bind (bind (rdP RL) (symK most RD s)) (next (loop (symStep most RL RD) f)) u q = _
  rw [bind2_ok h1]
  unfold symK
  rw [if_neg (by omega), if_pos hy]
  rw [bind2_ok h2, bind2_ok h3]; rfl
theorem match_is {j zj : Nat} {n d r1 r2 r3 : Nat} (hj : j < 29) (h1 : take (Sy.lb j).2 u r = .ok n r1) (h2 : rdP RD u r1 = .ok ((zj : Nat) : Int) r2) (hz : zj < 30) (h3 : take (Sy.db zj).2 u r2 = .ok d r3) :
    matchP RD ((j : Int) + 257) u r = .ok ((((Sy.lb j).1 + n : Nat) : Int), (((Sy.db zj).1 + d : Nat) : Int)) r3 := by
  have e1 : lenP ((j : Int) + 257) u r = .ok ((Sy.lb j).1 + n) r1 := by
    unfold lenP
    rw [if_pos (by omega)]
    have ej : ((j : Int) + 257 - 257).toNat = j := by omega
    rw [ej]
    unfold aboveP
    rw [if_pos rfl, bind_ok h1]; rfl
  have e2 : distP ((zj : Nat) : Int) u r2 = .ok ((Sy.db zj).1 + d) r3 := by
    unfold distP
    rw [if_pos (by omega), Int.toNat_natCast]
    unfold aboveP
    rw [if_pos rfl, bind_ok h3]; rfl
  unfold matchP
  rw [bind_ok e1, bind_ok h2, bind_ok e2]; rfl
theorem rdP_lt {R : Nat → List Nat} {y : Int} (h : rdP R u q = .ok y r) : q < r ∧ r ≤ u.length := by
  unfold rdP at h
  split at h
  · rename_i h0
    have := rd_le (Bk.ks R) (u.drop q) h0
    rw [List.length_drop] at this
    cases h; omega
  · cases h
theorem addP_at {t : Tok} {s' : Unp} (h : addP most t s u q = .ok s' r) : r = q := by
  unfold addP at h
  split at h
  · cases h; rfl
  · cases h
end
end Ip
/-- Two more blocks of a zone. -/
structure Rb (w : World) (F : Nat → Prop) (va vb : Value) (RL RD : Nat → List Nat) (g1 g2 g3 g4 : Nat) : Prop where
  ba : Bc w F va RL
  bb : Bc w F vb RD
  t1 : Sy.Two w g1 g2 29 Sy.lb
  t2 : Sy.Two w g3 g4 30 Sy.db
  f1 : F g1
  f2 : F g2
  f3 : F g3
  f4 : F g4
theorem Rb.kept {w w' : World} {F : Nat → Prop} {va vb : Value} {RL RD : Nat → List Nat} {g1 g2 g3 g4 : Nat} (h : Rb w F va vb RL RD g1 g2 g3 g4) (c : Ch w w' (fun k => ¬ F k)) : Rb w' F va vb RL RD g1 g2 g3 g4 :=
  ⟨h.ba.kept c (fun _ hk hn => hn hk), h.bb.kept c (fun _ hk hn => hn hk), h.t1.kept c (fun hn => hn h.f1) (fun hn => hn h.f2), h.t2.kept c (fun hn => hn h.f3) (fun hn => hn h.f4), h.f1, h.f2, h.f3, h.f4⟩
section
variable {w : World} {D : Nat → Prop} {B gr : Nat} {a : Option Addr} {cap : Nat} {u : List Bool} {p : Nat} {most : Nat} {v : Value} {s : Unp}
set_option maxRecDepth 100000 in
set_option maxHeartbeats 4000000 in
theorem rsyms_any (h : Rn w D B gr a cap u p 0 most s.1.length s.2 v) (hz : 0 < u.length) {a1 a2 : Option Addr} {n1 c1 n2 c2 : Nat} {L M : List Int} (hL : Is .i64 w a1 n1 c1 L) (hM : Is .i64 w a2 n2 c2 M) (hn1 : n1 ≤ 512) (hn2 : n2 ≤ 512) (fL : Cn.freeB L = true) (fM : Cn.freeB M = true) :
    Calls Tryd.prog 30 #[.pointer (some ⟨gr, 0, none⟩), .slice a1 n1 c1, .slice a2 n2 c2] w (RzPost w D B gr a cap u most (Ip.symsP most (Bk.rowsL L) (Bk.rowsL M) s u p)) := by
  have HR := Lib.hid h
  have HM := Lib.hid hM
  have HSY : Hid (∃ f, u.length - p < f ∧ Ip.symsP most (Bk.rowsL L) (Bk.rowsL M) s u p = Ip.loop (Ip.symStep most (Bk.rowsL L) (Bk.rowsL M)) f s u p) := Lib.hid ⟨Ip.big, by have := h.hu; unfold Ip.big; omega, rfl⟩
  have hu := h.hu
  clear h hM
  go_enter Tryd.func30, Tryd.ntmps30
  go_wp2_with fail
  refine (refCodes_any a1 n1 c1 L _ hL hn1).mono ?_
  intro e w1 hp
  obtain ⟨va, rfl, hba, hb1⟩ := bc_new fL hp
  clear hp hL
  go_wp2_with fail
  refine (refCodes_any a2 n2 c2 M _ (HM.out.mono hb1) hn2).mono ?_
  intro e w2 hp
  obtain ⟨vb, rfl, hbb, hb2⟩ := bc_new fM hp
  clear hp
  go_wp2_with fail
  refine (lens_low _).mono ?_
  rintro e w3 ⟨g1, g2, rfl, ht1, hb3, lo1, lo2⟩
  go_wp2_with fail
  refine (dists_low _).mono ?_
  rintro e w4 ⟨g3, g4, rfl, ht2, hb4, lo3, lo4⟩
  have b12 := below_then hb1 hb2
  have b13 := below_then b12 hb3
  have b14 := below_then b13 hb4
  have z1 := hb1.size
  have z2 := hb2.size
  have z3 := hb3.size
  have z4 := hb4.size
  have HIR := Lib.hid (HR.out.new b14)
  have HRB : Hid (Rb w4 (fun k => D k ∨ (w.heap.size ≤ k ∧ k < w4.heap.size)) va vb (Bk.rowsL L) (Bk.rowsL M) g1 g2 g3 g4) := Lib.hid (by
    have l1 := ht1.lg
    have l2 := ht1.lh
    have l3 := ht2.lg
    have l4 := ht2.lh
    refine ⟨((((hba.kept (Ch.of_below (T := fun _ => False) hb2) (fun _ _ h => h)).kept (Ch.of_below (T := fun _ => False) hb3) (fun _ _ h => h)).kept (Ch.of_below (T := fun _ => False) hb4) (fun _ _ h => h))).wide (fun k hk => .inr ⟨hk.1, by omega⟩),
      (((hbb.kept (Ch.of_below (T := fun _ => False) hb3) (fun _ _ h => h)).kept (Ch.of_below (T := fun _ => False) hb4) (fun _ _ h => h))).wide (fun k hk => .inr ⟨by omega, by omega⟩), ht1.mono hb4, ht2, ?_, ?_, ?_, ?_⟩
    all_goals (exact .inr ⟨by omega, by omega⟩))
  obtain ⟨D1, hDD⟩ : ∃ D1 : Nat → Prop, D1 = fun k => D k ∨ (w.heap.size ≤ k ∧ k < w4.heap.size) := ⟨_, rfl⟩
  have HOUT : Hid (∀ w5 r, Rz w5 D1 B gr a cap u most r → Ch w4 w5 (fun k => ¬ D1 k) → RzPost w D B gr a cap u most r (.returned (.tuple #[])) w5) := Lib.hid (fun w5 r hr hc => by
    subst hDD
    exact ⟨rfl, hr.elim (fun h => .inl (h.less (fun k hk => .inl hk))) (fun h => .inr (h.less (fun k hk => .inl hk))), ch_out b14 hc⟩)
  rw [← hDD] at HIR HRB
  clear hDD lo1 lo2 lo3 lo4 hba hbb ht1 ht2 hb1 hb2 hb3 hb4 b12 b13 b14 z1 z2 z3 z4 HR HM
  have HSL := Lib.hid (Ip.ks_free fL)
  have HSM := Lib.hid (Ip.ks_free fM)
  generalize Bk.rowsL L = RL at *
  generalize Bk.rowsL M = RD at *
  have HI : Hid ((∃ q s2 v2 f, Rn w4 D1 B gr a cap u q 0 most s2.1.length s2.2 v2 ∧ u.length - p + 1 = u.length - q + 1 ∧ u.length - q < f ∧ Ip.symsP most RL RD s u p = Ip.loop (Ip.symStep most RL RD) f s2 u q) ∨ ((∃ q bad sz ts v2, bad ≠ 0 ∧ Rn w4 D1 B gr a cap u q bad most sz ts v2) ∧ u.length - p + 1 = 0)) := Lib.hid (.inl (by obtain ⟨f, h1, h2⟩ := HSY.out; exact ⟨p, s, v, f, HIR.out, rfl, h1, h2⟩))
  have HC : Hid (Ch w4 w4 (fun k => ¬ D1 k)) := Lib.hid (Ch.refl _ _)
  clear HSY HIR
  go_wp2
  go_loopg [] (u.length - p + 1) (fun gk wr => Hid ((∃ q s2 v2 f, Rn wr D1 B gr a cap u q 0 most s2.1.length s2.2 v2 ∧ gk = u.length - q + 1 ∧ u.length - q < f ∧ Ip.symsP most RL RD s u p = Ip.loop (Ip.symStep most RL RD) f s2 u q) ∨ ((∃ q bad sz ts v2, bad ≠ 0 ∧ Rn wr D1 B gr a cap u q bad most sz ts v2) ∧ gk = 0)) ∧ Hid (Ch w4 wr (fun k => ¬ D1 k)))
  case atStart => exact ⟨HI, HC⟩
  case round =>
    obtain ⟨HK, HCH⟩ := hrel
    rcases HK.out with ⟨q, s2, v2, f, hrn, rfl, hf, hsp⟩ | ⟨⟨q, bad, sz, ts, v2, hb, hrn⟩, rfl⟩
    · obtain ⟨f, rfl⟩ : ∃ f', f = f' + 1 := ⟨f - 1, by omega⟩
      have k2 := hrn.cells.2.2.1
      have HRN := Lib.hid hrn
      have HRB1 := Lib.hid (HRB.out.kept HCH.out)
      have HSP := Lib.hid hsp
      clear hrn hsp HK
      go_wp2_with fail
      refine (rsym_bc HRN.out hz HRB1.out.ba).mono ?_
      cases hx : Ip.rdP RL u q with
      | err n =>
        rintro e w5 ⟨rfl, ⟨q5, bad, sz, ts, v5, hb, hr5⟩, hc5⟩
        have k5 := hr5.cells.2.2.1
        have d5 : (bad != 0) = true := by simpa using hb
        have HP := Lib.hid (HOUT.out w5 (Ip.symsP most RL RD s u p) (.inr ⟨q5, bad, sz, ts, v5, hb, hr5⟩) (HCH.out.trans hc5 (fun n hn => .inl hn)))
        clear hb hr5 hc5 k2 HRN HRB1 HSP
        go_wp2
        exact bodyPost_ret (results_none (by kernel_rfl) _ _ _) rfl HP.out
      | ok y r =>
        rintro e w5 ⟨rfl, ⟨v5, hr5⟩, hc5⟩
        have hlt := Ip.rdP_lt hx
        have k5 := hr5.cells.2.2.1
        have HC5 := Lib.hid (HCH.out.trans hc5 (fun n hn => .inl hn))
        have HX := Lib.hid hx
        by_cases hy : y = 256
        · subst hy
          have HP := Lib.hid (HOUT.out w5 (Ip.symsP most RL RD s u p) (.inl (by rw [HSP.out, Ip.syms_end hx]; exact ⟨v5, hr5⟩)) HC5.out)
          clear hr5 hc5 k2 HRN HRB1 HSP hx
          go_wp2
          exact bodyPost_ret (results_none (by kernel_rfl) _ _ _) rfl HP.out
        · have hy0 := Ip.rdP_sym HSL.out hx
          have d6 : (y == 256) = false := by simpa using hy
          by_cases hy2 : y < 256
          · obtain ⟨z, rfl⟩ := Int.eq_ofNat_of_zero_le hy0.1
            have hzz : z < 256 := by omega
            have d7 : decide ((z : Int) < 256) = true := by simp; omega
            have HPT := Lib.hid (rput_lit hr5 hzz)
            have HLT := Lib.hid hlt
            have HZZ := Lib.hid hzz
            clear hr5 hc5 k2 HRN HRB1 hx hy hy2 hzz hlt hy0
            go_wp2_with fail
            refine HPT.out.mono ?_
            cases ha : Ip.addP most ((0 : Int), ((z : Nat) : Int)) s2 u r with
            | err n =>
              rintro e w6 ⟨rfl, ⟨q6, bad, sz, ts, v6, hb, hr6⟩, hc6⟩
              have HD6 : Hid (∃ q bad sz ts v2, bad ≠ 0 ∧ Rn w6 D1 B gr a cap u q bad most sz ts v2) := Lib.hid ⟨q6, bad, sz, ts, v6, hb, hr6⟩
              have HC6 := Lib.hid (HC5.out.trans hc6 (fun n hn => .inl hn))
              clear hb hr6 hc6 HSP HPT HX ha
              go_wp2
              go_roundg (0)
              case measure => have := HLT.out; omega
              case rel => exact ⟨Lib.hid (.inr ⟨HD6.out, rfl⟩), HC6⟩
            | ok s6 r6 =>
              rintro e w6 ⟨rfl, ⟨v6, hr6⟩, hc6⟩
              have hat := Ip.addP_at ha
              subst hat
              have hl := HLT.out
              have HI6 : Hid ((∃ q s2 v2 f, Rn w6 D1 B gr a cap u q 0 most s2.1.length s2.2 v2 ∧ u.length - r6 + 1 = u.length - q + 1 ∧ u.length - q < f ∧ Ip.symsP most RL RD s u p = Ip.loop (Ip.symStep most RL RD) f s2 u q) ∨ ((∃ q bad sz ts v2, bad ≠ 0 ∧ Rn w6 D1 B gr a cap u q bad most sz ts v2) ∧ u.length - r6 + 1 = 0)) := Lib.hid (.inl ⟨r6, s6, v6, f, hr6, rfl, by omega, by rw [HSP.out, Ip.syms_lit HX.out (by have := HZZ.out; omega) ha]⟩)
              have HC6 := Lib.hid (HC5.out.trans hc6 (fun n hn => .inl hn))
              clear hr6 hc6 HSP HPT HX ha hl
              go_wp2
              go_roundg (u.length - r6 + 1)
              case measure => have := HLT.out; omega
              case rel => exact ⟨HI6, HC6⟩
          · have d7 : decide (y < 256) = false := by simpa using hy2
            by_cases hy3 : 285 < y
            · have d8 : decide (285 < y) = true := by simpa using hy3
              have HF := Lib.hid (rfail_any hr5 2 (by decide))
              clear hr5 hc5 k2 HRN HRB1 HSP HX hx hy hy2 hy3 hy0 hlt
              go_wp2_with fail
              refine HF.out.mono ?_
              rintro e w6 ⟨rfl, ⟨bad, hb, hr6⟩, hc6⟩
              have HP := Lib.hid (HOUT.out w6 (Ip.symsP most RL RD s u p) (.inr ⟨_, bad, _, _, _, hb, hr6⟩) (HC5.out.trans hc6 (fun n hn => .inl hn)))
              clear hb hr6 hc6
              go_wp2
              exact bodyPost_ret (results_none (by kernel_rfl) _ _ _) rfl HP.out
            · obtain ⟨j, rfl⟩ : ∃ j : Nat, y = (j : Int) + 257 := ⟨(y - 257).toNat, by omega⟩
              have hj : j < 29 := by omega
              have d8 : decide (285 < (j : Int) + 257) = false := by simp; omega
              have HRB5 := Lib.hid (HRB1.out.kept hc5)
              have hlb := lb_bound j hj
              have hlo := Ip.lb_out j hj
              have t1 := HRB5.out.t1.fst j hj
              have t2 := HRB5.out.t1.snd j hj
              have HT : Hid (∀ N, Calls Tryd.prog 27 #[.pointer (some ⟨gr, 0, none⟩), .int .i64 ((Sy.lb j).2 : Nat)] (w5.drewN N) (RtPost (w5.drewN N) D1 B gr a cap u most s2 (fun n : Nat => .int .i64 (n : Nat)) (.int .i64 0) (Ip.take (Sy.lb j).2 u r))) := Lib.hid (fun N => rtake_any (hr5.mono (dn_is w5 N)) (Sy.lb j).2 hlb.2 (.inr hz))
              have HB5 : Hid (∀ N w6, Ch (w5.drewN N) w6 (fun k => ¬ D1 k) → Ch w4 w6 (fun k => ¬ D1 k) ∧ Rb w6 D1 va vb RL RD g1 g2 g3 g4) := Lib.hid (fun N w6 h =>
                ⟨(HC5.out.trans (Ch.of_below (T := fun _ => False) (dn_is w5 N)) (fun _ h => h.elim)).trans h (fun n hn => .inl hn), (HRB5.out.kept (Ch.of_below (dn_is w5 N))).kept h⟩)
              have hn5 : ∀ n q', Ip.take (Sy.lb j).2 u r = .ok n q' → (Sy.lb j).1 + n ≤ 1000 := fun n q' h => by
                have := Ip.take_lt h
                omega
              have HJ := Lib.hid hj
              have ij0 : (0 : Int) ≤ (j : Int) := by omega
              have ij1 : (j : Int) < 29 := by omega
              have iw : IntKind.i64.wrap ((j : Int) + 257 - 257) = (j : Int) := by rw [IntWalk.i64_in _ ⟨by omega, by omega⟩]; omega
              have iw2 : IntKind.i64.wrap (j : Int) = (j : Int) := IntWalk.i64_in _ ⟨by omega, by omega⟩
              have hl1 : (Sy.lb j).1 ≤ 1000 := by
                have := Nat.two_pow_pos (Sy.lb j).2
                omega
              have h3 : 1 ≤ (Sy.lb j).1 := by omega
              clear hr5 hc5 k2 HRN HRB1 HRB5 hx hy hy2 hy3 hy0 hlb hlo hj
              obtain ⟨bj, hbj⟩ : ∃ bj, bj = (Sy.lb j).1 := ⟨_, rfl⟩
              obtain ⟨xj, hxj⟩ : ∃ xj, xj = (Sy.lb j).2 := ⟨_, rfl⟩
              have HBJ := Lib.hid hbj
              have HXJ := Lib.hid hxj
              have HX5 := Lib.hid (And.intro HX.out HSP.out)
              rw [← hbj] at t1 hn5 hl1 h3
              rw [← hxj] at t2 HT hn5
              clear hbj hxj
              cases h1 : Ip.take xj u r with
              | err n =>
                rw [h1] at HT
                go_wp2_with fail
                go_region_held3 (fun w' => w'.cell? ⟨g1, j, none⟩ = some (.int .i64 (bj : Nat)) ∧ w'.cell? ⟨g2, j, none⟩ = some (.int .i64 (xj : Nat))) (go_keep)
                  (first | (go_at_call 27; refine (HT.out _).mono ?_; rintro e w6 ⟨rfl, ⟨q6, bad, sz, ts, v6, hb, hr6⟩, hc6⟩; have HB6 := Lib.hid (HB5.out _ _ hc6); have t61 : w6.cell? ⟨g1, j, none⟩ = some (.int .i64 (bj : Nat)) := (by rw [HBJ.out]; exact HB6.out.2.t1.fst j HJ.out); have t62 : w6.cell? ⟨g2, j, none⟩ = some (.int .i64 (xj : Nat)) := (by rw [HXJ.out]; exact HB6.out.2.t1.snd j HJ.out)))
                have d9 : (bad == 0) = false := by simpa using hb
                have d10 : (bad != 0) = true := by simpa using hb
                have k6 := hr6.cells.2.2.1
                have HD := Lib.hid (rsym_dead (vc := vb) hr6 hb)
                have HP := Lib.hid (HOUT.out w6 (Ip.symsP most RL RD s u p) (.inr ⟨q6, bad, sz, ts, v6, hb, hr6⟩) HB6.out.1)
                clear hb hr6 hc6 HB6 t61 t62
                go_wp2_with fail
                refine HD.out.mono ?_
                rintro e w7 ⟨rfl, rfl⟩
                go_wp2
                exact bodyPost_ret (results_none (by kernel_rfl) _ _ _) rfl HP.out
              | ok n r1 =>
                rw [h1] at HT
                have hbn := hn5 n r1 h1
                have iw3 : IntKind.i64.wrap ((bj : Int) + (n : Int)) = (bj : Int) + (n : Int) := IntWalk.i64_in _ ⟨by omega, by omega⟩
                go_wp2_with fail
                go_region_held3 (fun w' => w'.cell? ⟨g1, j, none⟩ = some (.int .i64 (bj : Nat)) ∧ w'.cell? ⟨g2, j, none⟩ = some (.int .i64 (xj : Nat))) (go_keep)
                  (first | (go_at_call 27; refine (HT.out _).mono ?_; rintro e w6 ⟨rfl, ⟨v6, hr6⟩, hc6⟩; have HB6 := Lib.hid (HB5.out _ _ hc6); have t61 : w6.cell? ⟨g1, j, none⟩ = some (.int .i64 (bj : Nat)) := (by rw [HBJ.out]; exact HB6.out.2.t1.fst j HJ.out); have t62 : w6.cell? ⟨g2, j, none⟩ = some (.int .i64 (xj : Nat)) := (by rw [HXJ.out]; exact HB6.out.2.t1.snd j HJ.out)))
                clear t61 t62 hc6 t1 t2 HT HB5
                have H1 := Lib.hid h1
                have HR6 := Lib.hid hr6
                clear h1 hr6
                go_wp2_with fail
                refine (rsym_bc HR6.out hz HB6.out.2.bb).mono ?_
                cases h2 : Ip.rdP RD u r1 with
                | err n =>
                  rintro e w7 ⟨rfl, ⟨q7, bad, sz, ts, v7, hb, hr7⟩, hc7⟩
                  have d9 : (bad == 0) = false := by simpa using hb
                  have d10 : (bad != 0) = true := by simpa using hb
                  have k7 := hr7.cells.2.2.1
                  have HP := Lib.hid (HOUT.out w7 (Ip.symsP most RL RD s u p) (.inr ⟨q7, bad, sz, ts, v7, hb, hr7⟩) (HB6.out.1.trans hc7 (fun n hn => .inl hn)))
                  clear hb hr7 hc7 HB6 HR6
                  go_wp2
                  exact bodyPost_ret (results_none (by kernel_rfl) _ _ _) rfl HP.out
                | ok zz r2 =>
                  rintro e w7 ⟨rfl, ⟨v7, hr7⟩, hc7⟩
                  have hz0 := Ip.rdP_sym HSM.out h2
                  have hlt2 := Ip.rdP_lt h2
                  obtain ⟨zj, rfl⟩ := Int.eq_ofNat_of_zero_le hz0.1
                  have k7 := hr7.cells.2.2.1
                  have HC7 := Lib.hid (HB6.out.1.trans hc7 (fun n hn => .inl hn))
                  by_cases hz3 : 29 < zj
                  · have d9 : decide ((29 : Int) < (zj : Int)) = true := by simp; omega
                    have HF := Lib.hid (rfail_any hr7 2 (by decide))
                    clear hr7 hc7 HR6 HB6 hz3 hz0 h2 hlt2
                    go_wp2_with fail
                    refine HF.out.mono ?_
                    rintro e w8 ⟨rfl, ⟨bad, hb, hr8⟩, hc8⟩
                    have d10 : (bad != 0) = true := by simpa using hb
                    have k8 := hr8.cells.2.2.1
                    have HP := Lib.hid (HOUT.out w8 (Ip.symsP most RL RD s u p) (.inr ⟨_, bad, _, _, _, hb, hr8⟩) (HC7.out.trans hc8 (fun n hn => .inl hn)))
                    clear hb hr8 hc8
                    go_wp2
                    exact bodyPost_ret (results_none (by kernel_rfl) _ _ _) rfl HP.out
                  · have d9 : decide ((29 : Int) < (zj : Int)) = false := by simp; omega
                    have HH2 := Lib.hid h2
                    have hzj : zj < 30 := by omega
                    have HRB7 := Lib.hid (HB6.out.2.kept hc7)
                    have hdb := db_bound zj hzj
                    have hdo := Ip.db_out zj hzj
                    have t1 := HRB7.out.t2.fst zj hzj
                    have t2 := HRB7.out.t2.snd zj hzj
                    have HT : Hid (∀ N, Calls Tryd.prog 27 #[.pointer (some ⟨gr, 0, none⟩), .int .i64 ((Sy.db zj).2 : Nat)] (w7.drewN N) (RtPost (w7.drewN N) D1 B gr a cap u most s2 (fun n : Nat => .int .i64 (n : Nat)) (.int .i64 0) (Ip.take (Sy.db zj).2 u r2))) := Lib.hid (fun N => rtake_any (hr7.mono (dn_is w7 N)) (Sy.db zj).2 hdb.2 (.inr hz))
                    have HB7 : Hid (∀ N w8, Ch (w7.drewN N) w8 (fun k => ¬ D1 k) → Ch w4 w8 (fun k => ¬ D1 k) ∧ Rb w8 D1 va vb RL RD g1 g2 g3 g4) := Lib.hid (fun N w8 h =>
                      ⟨(HC7.out.trans (Ch.of_below (T := fun _ => False) (dn_is w7 N)) (fun _ h => h.elim)).trans h (fun n hn => .inl hn), (HRB7.out.kept (Ch.of_below (dn_is w7 N))).kept h⟩)
                    have hn7 : ∀ n q', Ip.take (Sy.db zj).2 u r2 = .ok n q' → (Sy.db zj).1 + n ≤ 40000 := fun n q' h => by
                      have := Ip.take_lt h
                      omega
                    have HZJ := Lib.hid hzj
                    have iz0 : (0 : Int) ≤ (zj : Int) := by omega
                    have iz1 : (zj : Int) < 30 := by omega
                    have hl1' : (Sy.db zj).1 ≤ 40000 := by
                      have := Nat.two_pow_pos (Sy.db zj).2
                      omega
                    obtain ⟨dj, hdj⟩ : ∃ dj, dj = (Sy.db zj).1 := ⟨_, rfl⟩
                    obtain ⟨yj, hyj⟩ : ∃ yj, yj = (Sy.db zj).2 := ⟨_, rfl⟩
                    have HDJ := Lib.hid hdj
                    have HYJ := Lib.hid hyj
                    rw [← hdj] at t1 hn7 hl1'
                    rw [← hyj] at t2 HT hn7
                    clear hdj hyj hdb hdo hr7 hc7 HR6 HB6 hz3 hz0 h2 hzj
                    cases h4 : Ip.take yj u r2 with
                    | err m =>
                      rw [h4] at HT
                      go_wp2_with fail
                      go_region_held3 (fun w' => w'.cell? ⟨g3, zj, none⟩ = some (.int .i64 (dj : Nat)) ∧ w'.cell? ⟨g4, zj, none⟩ = some (.int .i64 (yj : Nat))) (go_keep)
                        (first | (go_at_call 27; refine (HT.out _).mono ?_; rintro e w8 ⟨rfl, ⟨q8, bad, sz, ts, v8, hb, hr8⟩, hc8⟩; have HB8 := Lib.hid (HB7.out _ _ hc8); have t81 : w8.cell? ⟨g3, zj, none⟩ = some (.int .i64 (dj : Nat)) := (by rw [HDJ.out]; exact HB8.out.2.t2.fst zj HZJ.out); have t82 : w8.cell? ⟨g4, zj, none⟩ = some (.int .i64 (yj : Nat)) := (by rw [HYJ.out]; exact HB8.out.2.t2.snd zj HZJ.out)))
                      have HPD := Lib.hid (rput_dead hr8 hb ((bj : Int) + (n : Int)) (dj : Int))
                      have HB := Lib.hid hb
                      clear hr8 hc8 t81 t82 t1 t2 HT HB7 hb
                      go_wp2_with fail
                      refine HPD.out.mono ?_
                      rintro e w9 ⟨rfl, hr9, hc9⟩
                      have HD9 : Hid (∃ q bad sz ts v2, bad ≠ 0 ∧ Rn w9 D1 B gr a cap u q bad most sz ts v2) := Lib.hid ⟨q8, bad, sz, ts, v8, HB.out, hr9⟩
                      have HC9 := Lib.hid (HB8.out.1.trans hc9 (fun n hn => .inl hn))
                      clear hr9 hc9 HB8 HPD
                      go_wp2
                      go_roundg (0)
                      case measure => omega
                      case rel => exact ⟨Lib.hid (.inr ⟨HD9.out, rfl⟩), HC9⟩
                    | ok m r3 =>
                      rw [h4] at HT
                      have hdn := hn7 m r3 h4
                      have hr23 := Ip.take_le h4
                      have hr01 := Ip.take_le H1.out
                      have iw4 : IntKind.i64.wrap ((dj : Int) + (m : Int)) = (dj : Int) + (m : Int) := IntWalk.i64_in _ ⟨by omega, by omega⟩
                      go_wp2_with fail
                      go_region_held3 (fun w' => w'.cell? ⟨g3, zj, none⟩ = some (.int .i64 (dj : Nat)) ∧ w'.cell? ⟨g4, zj, none⟩ = some (.int .i64 (yj : Nat))) (go_keep)
                        (first | (go_at_call 27; refine (HT.out _).mono ?_; rintro e w8 ⟨rfl, ⟨v8, hr8⟩, hc8⟩; have HB8 := Lib.hid (HB7.out _ _ hc8); have t81 : w8.cell? ⟨g3, zj, none⟩ = some (.int .i64 (dj : Nat)) := (by rw [HDJ.out]; exact HB8.out.2.t2.fst zj HZJ.out); have t82 : w8.cell? ⟨g4, zj, none⟩ = some (.int .i64 (yj : Nat)) := (by rw [HYJ.out]; exact HB8.out.2.t2.snd zj HZJ.out)))
                      have HPF : Hid (Calls Tryd.prog 52 #[.pointer (some ⟨gr, 0, none⟩), .agg #[.int .i64 ((bj : Int) + (n : Int)), .int .i64 ((dj : Int) + (m : Int))]] w8 (RutPost w8 D1 B gr a cap u most (Ip.addP most (((bj + n : Nat) : Int), ((dj + m : Nat) : Int)) s2 u r3))) := Lib.hid (by
                        have := rput_far hr8 (k := bj + n) (d := dj + m) (by omega) (by omega) (by omega)
                        rw [show ((bj + n : Nat) : Int) = (bj : Int) + (n : Int) from by omega, show ((dj + m : Nat) : Int) = (dj : Int) + (m : Int) from by omega] at this ⊢
                        exact this)
                      have HMI : Hid (Ip.matchP RD ((j : Int) + 257) u r = .ok (((bj + n : Nat) : Int), ((dj + m : Nat) : Int)) r3) := Lib.hid (by
                        have := Ip.match_is (RD := RD) (u := u) HJ.out (by rw [← HXJ.out]; exact H1.out) HH2.out HZJ.out (by rw [← HYJ.out]; exact h4)
                        rw [← HBJ.out, ← HDJ.out] at this
                        exact this)
                      clear hr8 hc8 t81 t82 t1 t2 HT HB7 h4
                      go_wp2_with fail
                      refine HPF.out.mono ?_
                      cases ha : Ip.addP most (((bj + n : Nat) : Int), ((dj + m : Nat) : Int)) s2 u r3 with
                      | err k =>
                        rintro e w9 ⟨rfl, ⟨q9, bad, sz, ts, v9, hb, hr9⟩, hc9⟩
                        have HD9 : Hid (∃ q bad sz ts v2, bad ≠ 0 ∧ Rn w9 D1 B gr a cap u q bad most sz ts v2) := Lib.hid ⟨q9, bad, sz, ts, v9, hb, hr9⟩
                        have HC9 := Lib.hid (HB8.out.1.trans hc9 (fun n hn => .inl hn))
                        clear hr9 hc9 HB8 HPF hb ha
                        go_wp2
                        go_roundg (0)
                        case measure => omega
                        case rel => exact ⟨Lib.hid (.inr ⟨HD9.out, rfl⟩), HC9⟩
                      | ok s6 r6 =>
                        rintro e w9 ⟨rfl, ⟨v9, hr9⟩, hc9⟩
                        have hat := Ip.addP_at ha
                        subst hat
                        have HI9 : Hid ((∃ q s2 v2 f, Rn w9 D1 B gr a cap u q 0 most s2.1.length s2.2 v2 ∧ u.length - r6 + 1 = u.length - q + 1 ∧ u.length - q < f ∧ Ip.symsP most RL RD s u p = Ip.loop (Ip.symStep most RL RD) f s2 u q) ∨ ((∃ q bad sz ts v2, bad ≠ 0 ∧ Rn w9 D1 B gr a cap u q bad most sz ts v2) ∧ u.length - r6 + 1 = 0)) := Lib.hid (.inl ⟨r6, s6, v9, f, hr9, rfl, by omega, by rw [HSP.out, Ip.syms_far HX.out (by omega) HMI.out ha]⟩)
                        have HC9 := Lib.hid (HB8.out.1.trans hc9 (fun n hn => .inl hn))
                        clear hr9 hc9 HB8 HPF ha
                        go_wp2
                        go_roundg (u.length - r6 + 1)
                        case measure => omega
                        case rel => exact ⟨HI9, HC9⟩
    · have k2 := hrn.cells.2.2.1
      have d2 : (bad == 0) = false := by simpa using hb
      have HP := Lib.hid (HOUT.out wr (Ip.symsP most RL RD s u p) (.inr ⟨q, bad, sz, ts, v2, hb, hrn⟩) HCH.out)
      clear hb hrn HK
      go_wp2
      go_end0
      exact HP.out
end
end Go.Proofs.YtfgpmccmalddjaaDoor
end
