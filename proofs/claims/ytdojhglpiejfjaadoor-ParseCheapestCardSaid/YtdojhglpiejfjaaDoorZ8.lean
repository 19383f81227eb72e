/- match.NewFinder: its contract. A range over an iterator that tells what comes next: its contract, and the caller's law. -/
import Derived.Test.YtdojhglpiejfjaaDoorZ7
import Derived.StillTailTactics
import Derived.RangeFuncNested
import Derived.RangeFuncFrom
import Derived.RangeFuncLeaves
set_option linter.unusedSimpArgs false
set_option linter.unusedVariables false
section
namespace Go.Proofs.YtdojhglpiejfjaaDoor
open Go.RowKit Go.Maps

theorem tyEnds : RowTy Tryd.prog 75 21 (.int .i32 0) 1 4 := ⟨Tryd.underlying75, by kernel_rfl, rfl, by omega⟩
/-- The records of the places ahead of t, one place behind the other. -/
def Recs (l : List UInt8) (N t : Nat) (Rs : List (List (Nat × Nat))) : Prop := Rs.length = t ∧ ∀ i, i < t → Lz.Rec (gb l) N i (Rs.getD i [])
/-- Where the records of a place end. -/
def ends (Rs : List (List (Nat × Nat))) (i : Nat) : Nat := (Rs.take (i + 1)).flatten.length
/-- A finder in memory, as far as t places. -/
structure Fd (w : World) (gf eb base N : Nat) (l : List UInt8) (t : Nat) (v : Value) (Rs : List (List (Nat × Nat))) : Prop where
  row : w.heap[gf]? = some (.cells #[v, .slice (some ⟨eb, 0, none⟩) N N] 78 (0, 0))
  own : w.ownsRow base 108 2 v Rs.flatten.length (rvs Rs.flatten)
  recs : Recs l N t Rs
  ends : ∃ cs, w.heap[eb]? = some (.cells cs 21 (0, 0)) ∧ cs.size = N ∧ ∀ i, i < t → cs[i]? = some (.int .i32 ((ends Rs i : Nat) : Int))
  n1 : gf ≠ eb
  n2 : ∀ b, v.ownBlock = some b → b ≠ gf ∧ b ≠ eb
theorem recs_len {l : List UInt8} {N : Nat} : ∀ {t : Nat} {Rs : List (List (Nat × Nat))}, Recs l N t Rs → Rs.flatten.length ≤ 259 * t := by
  intro t Rs h
  have key : ∀ (k : Nat), k ≤ t → (Rs.take k).flatten.length ≤ 259 * k := fun k => by
    induction k with
    | zero => intro _; simp
    | succ k ih =>
      intro hk
      have h1 := ih (by omega)
      have h2 := (h.2 k (by omega)).len
      have hlt : k < Rs.length := by rw [h.1]; omega
      rw [List.take_succ_eq_append_getElem hlt, List.flatten_append, List.length_append]
      rw [List.getD, List.getElem?_eq_getElem hlt] at h2
      simp only [Option.getD_some] at h2
      simp only [List.flatten_cons, List.flatten_nil, List.append_nil]
      omega
  have := key t (Nat.le_refl _)
  rwa [List.take_of_length_le (by rw [h.1]; exact Nat.le_refl _)] at this
theorem recs_snoc {l : List UInt8} {N t : Nat} {Rs : List (List (Nat × Nat))} {R : List (Nat × Nat)} (h : Recs l N t Rs) (hR : Lz.Rec (gb l) N t R) : Recs l N (t + 1) (Rs ++ [R]) ∧ (∀ i, i < t → ends (Rs ++ [R]) i = ends Rs i) ∧ ends (Rs ++ [R]) t = (Rs.flatten ++ R).length ∧ (Rs ++ [R]).flatten = Rs.flatten ++ R := by
  refine ⟨⟨by simp [h.1], fun i hi => ?_⟩, fun i hi => ?_, ?_, by simp⟩
  · by_cases e : i = t
    · subst e
      rw [List.getD, List.getElem?_append_right (by rw [h.1]; exact Nat.le_refl _), h.1]
      simpa using hR
    · rw [List.getD, List.getElem?_append_left (by rw [h.1]; omega)]
      exact h.2 i (by omega)
  · unfold ends
    rw [List.take_append_of_le_length (by rw [h.1]; omega)]
  · unfold ends
    rw [List.take_of_length_le (by simp [h.1])]
    simp
/-- What enter's contract says, of any world. -/
def EnterOk (g mb bb : Nat) (a : Option Addr) (cap N : Nat) (l : List UInt8) (base : Nat) : Prop :=
  ∀ (w : World) (t n : Nat) (v : Value) (R : List (Nat × Nat)), En w g mb bb a cap N n l t → t < N → n < 2000000 → w.ownsRow base 108 2 v R.length (rvs R) → base ≤ w.heap.size → R.length ≤ 1000000000 →
    (∀ b, v.ownBlock = some b → b ≠ g ∧ b ≠ mb ∧ b ≠ bb ∧ ∀ ad, a = some ad → b ≠ ad.block) → Db w →
    Calls Tryd.prog 41 #[.pointer (some ⟨g, 0, none⟩), .int .i64 (t : Nat), v] w (EnPost w g mb bb a cap N n l t base v R)
/-- What NewFinder answers of a text that isn't too long. -/
def NfdPost (w : World) (N : Nat) (l : List UInt8) (e : Ending) (w' : World) : Prop :=
  ∃ gf eb v Rs, e = .returned (.tuple #[.pointer (some ⟨gf, 0, none⟩), .nilIface]) ∧ Fd w' gf eb w.heap.size N l N v Rs ∧ w.heap.size ≤ gf ∧ w.heap.size ≤ eb ∧ Below w.heap.size w w'
theorem newFinder_no (a : Option Addr) (N cap : Nat) (w : World) (hN : 1048576 < N) :
    Calls Tryd.prog 23 #[.slice a N cap] w fun e w' => e = .returned (.tuple #[.pointer none, .iface 43 (.int .i64 4)]) ∧ w = w' := by
  have d1 : decide ((1048576 : Int) < (N : Int)) = true := by simp; omega
  clear hN
  go_enter Tryd.func23, Tryd.ntmps23
  go_wp2
  go_ret2
  exact ⟨rfl, rfl⟩
/-- A place's records are written behind the others, and where they end. -/
theorem fd_step {wr w4 w5 : World} {gf eb base N mb bb t : Nat} {l : List UInt8} {v v' : Value} {Rs : List (List (Nat × Nat))} {Rt : List (Nat × Nat)} (hfd : Fd wr gf eb base N l t v Rs) (hrec : Lz.Rec (gb l) N t Rt) (ht : t < N)
    (how : w4.ownsRow base 108 2 v' (Rs.flatten ++ Rt).length (rvs (Rs.flatten ++ Rt))) (hc : Ch wr w4 (fun b => b = mb ∨ b = bb ∨ v.ownBlock = some b)) (n1 : gf ≠ mb ∧ gf ≠ bb ∧ eb ≠ mb ∧ eb ≠ bb)
    (hv' : ∀ b, v'.ownBlock = some b → v.ownBlock = some b ∨ wr.heap.size ≤ b) (hb : Below (w4.setCell ⟨gf, 0, none⟩ v').heap.size (w4.setCell ⟨gf, 0, none⟩ v') w5) :
    Fd (w5.setCell ⟨eb, t, none⟩ (.int .i32 (((Rs.flatten ++ Rt).length : Nat) : Int))) gf eb base N l (t + 1) v' (Rs ++ [Rt]) ∧ Ch w4 (w5.setCell ⟨eb, t, none⟩ (.int .i32 (((Rs.flatten ++ Rt).length : Nat) : Int))) (fun b => b = gf ∨ b = eb) := by
  obtain ⟨cs, hcs, k1, k2⟩ := hfd.ends
  have lt : ∀ {i : Nat} {o : Obj}, wr.heap[i]? = some o → i < wr.heap.size := fun h => (Array.getElem?_eq_some_iff.1 h).1
  have hg4 := (hc.block gf (lt hfd.row) (fun h => by rcases h with h | h | h; exact n1.1 h; exact n1.2.1 h; exact (hfd.n2 _ h).1 rfl)).trans hfd.row
  have he4 := (hc.block eb (lt hcs) (fun h => by rcases h with h | h | h; exact n1.2.2.1 h; exact n1.2.2.2 h; exact (hfd.n2 _ h).2 rfl)).trans hcs
  have c1 : Ch w4 (w4.setCell ⟨gf, 0, none⟩ v') (fun b => b = gf) := (Ch.refl w4 (fun b => b = gf)).set (.inl rfl) _
  have c2 := c1.trans (Ch.of_below (T := fun _ => False) hb) (fun _ h => h.elim)
  have c3 : Ch w4 (w5.setCell ⟨eb, t, none⟩ (.int .i32 (((Rs.flatten ++ Rt).length : Nat) : Int))) (fun b => b = gf ∨ b = eb) := (c2.wide (fun k hk => .inl (.inl hk))).set (.inl (.inr rfl)) _
  have hlt4 : gf < w4.heap.size ∧ eb < w4.heap.size := ⟨(Array.getElem?_eq_some_iff.1 hg4).1, (Array.getElem?_eq_some_iff.1 he4).1⟩
  have hvn : ∀ b, v'.ownBlock = some b → b ≠ gf ∧ b ≠ eb := fun b hbk => by
    rcases hv' b hbk with h | h
    · exact hfd.n2 b h
    · have h1 := lt hfd.row; have h2 := lt hcs; exact ⟨by omega, by omega⟩
  have hsn := recs_snoc hfd.recs hrec
  have hg5 : w5.heap[gf]? = some (.cells #[v', .slice (some ⟨eb, 0, none⟩) N N] 78 (0, 0)) := by
    rw [hb.block gf (by have := c1.size; omega), heap_setCell_same _ _ _ _ _ _ hg4]; rfl
  have he5 : w5.heap[eb]? = some (.cells cs 21 (0, 0)) := (c2.block eb hlt4.2 (fun h => hfd.n1 h.symm)).trans he4
  have c4 : Ch w5 (w5.setCell ⟨eb, t, none⟩ (.int .i32 (((Rs.flatten ++ Rt).length : Nat) : Int))) (fun b => b = eb) := (Ch.refl w5 (fun b => b = eb)).set (.inl rfl) _
  refine ⟨⟨(c4.block gf (Array.getElem?_eq_some_iff.1 hg5).1 hfd.n1).trans hg5, ?_, hsn.1, ⟨cs.setIfInBounds t (.int .i32 (((Rs.flatten ++ Rt).length : Nat) : Int)), heap_setCell_same _ _ _ _ _ _ he5, by simp [k1], fun i hi => ?_⟩, hfd.n1, hvn⟩, c3⟩
  · rw [hsn.2.2.2]
    exact c3.own how (fun b hbk h => by rcases h with h | h; exact (hvn b hbk).1 h; exact (hvn b hbk).2 h)
  · by_cases e : i = t
    · subst e
      rw [Array.getElem?_setIfInBounds_self_of_lt (by omega), hsn.2.2.1]
    · rw [Array.getElem?_setIfInBounds_ne (by omega), k2 i (by omega), hsn.2.1 i (by omega)]
/-- A finder and its forest, side by side. -/
def Fn (w wr : World) (gf g mb bb : Nat) (a : Option Addr) (cap N : Nat) (l : List UInt8) (t : Nat) : Prop :=
  ∃ v Rs n, Fd wr gf w.heap.size w.heap.size N l t v Rs ∧ En wr g mb bb a cap N n l t ∧ n ≤ t ∧ Below w.heap.size w wr ∧ ∀ b, v.ownBlock = some b → b ≠ g ∧ b ≠ mb ∧ b ≠ bb ∧ w.heap.size ≤ b
set_option maxRecDepth 100000 in
set_option maxHeartbeats 8000000 in
theorem newFinder_yes (a : Option Addr) (N cap : Nat) (l : List UInt8) (w : World) (h : Bs w a N cap l) (hN : N ≤ 1048576) (ha : ∀ ad, a = some ad → ad.block < w.heap.size) (hdb : Db w) (hdl : 0 < w.heap.size)
    (henter : ∀ g mb bb base, 0 < mb → 0 < bb → 0 < base → EnterOk g mb bb a cap N l base) :
    Calls Tryd.prog 23 #[.slice a N cap] w (NfdPost w N l) := by
  have d1 : decide ((1048576 : Int) < (N : Int)) = false := by simp; omega
  have H := Lib.hid h
  have HDB : Hid (∀ w', Below w.heap.size w w' → Db w') := Lib.hid (fun w' hb => hdb.kept hb hdl)
  have HA := Lib.hid ha
  have HE := Lib.hid henter
  have HNN := Lib.hid hN
  clear h hdb ha henter
  go_enter Tryd.func23, Tryd.ntmps23
  go_wp2_with (at_make; refine wpl_make_full tyEnds rfl _ _ rfl w.heap.size .i64 .i64 _ _ N rfl rfl rfl rfl (by omega) (by omega) (by omega) ?_)
  intro w1 own1 g1
  have b1 : Below w.heap.size w w1 := (Below.refl _ _).grown g1 (Nat.le_refl _) (by simp)
  have hz1 : w.heap.size < w1.heap.size := (own1.lt w.heap.size rfl).2
  have B2 := Lib.hid (below_then b1 (below_alloc w1 (.cells #[.slice none 0 0, .slice (some ⟨w.heap.size, 0, none⟩) N N] 78)))
  have HROW := Lib.hid (heap_alloc_last w1 (.cells #[.slice none 0 0, .slice (some ⟨w.heap.size, 0, none⟩) N N] 78))
  have O1 := Lib.hid (own_below own1 (below_alloc w1 (.cells #[.slice none 0 0, .slice (some ⟨w.heap.size, 0, none⟩) N N] 78)))
  have HNF := Lib.hid (newForest_any a N cap l _ (H.out.mono B2.out) hN (fun ad e => by have := HA.out ad e; have := B2.out.size; omega))
  clear own1 g1 b1
  go_wp2_with fail
  refine HNF.out.mono ?_
  rintro e w3 ⟨g, mb, bb, rfl, hen, hg, hmb, hbb, hb3⟩
  have hgs : w1.heap.size + 1 ≤ g ∧ w1.heap.size + 1 ≤ mb ∧ w1.heap.size + 1 ≤ bb := by simp at hg hmb hbb; exact ⟨by omega, by omega, by omega⟩
  have HG := Lib.hid hgs
  have HEN0 : Hid (EnterOk g mb bb a cap N l w.heap.size) := Lib.hid (HE.out g mb bb w.heap.size (by omega) (by omega) hdl)
  have HF0 : Hid (Fn w w3 w1.heap.size g mb bb a cap N l 0) := Lib.hid (by
    refine ⟨.slice none 0 0, [], 0, ⟨(hb3.block _ (by simp)).trans HROW.out, World.ownsRow_nil _ _ _ _, ⟨rfl, fun i hi => absurd hi (by omega)⟩, ?_, by omega, fun b hb => by simp [Value.ownBlock] at hb⟩, hen, Nat.le_refl _, below_then B2.out hb3, fun b hb => by simp [Value.ownBlock] at hb⟩
    have o3 := own_below O1.out hb3
    rcases o3.2 with ⟨h', _⟩ | ⟨g', cap', cur, h', hb', hg', hnc, hm', hsz, _⟩
    · simp at h'
    · simp only [Value.slice.injEq, Option.some.injEq, Addr.mk.injEq, and_true, true_and] at h'
      obtain ⟨rfl, rfl⟩ := h'
      exact ⟨cur, hg', by omega, fun i hi => absurd hi (by omega)⟩)
  generalize w1.heap.size = gf at *
  clear hen hg hmb hbb hb3 HROW O1 HNF B2 HE hgs H
  go_wp2
  go_loopw [20] (fun i wr => ∃ t : Nat, t ≤ N ∧ i = .int .i64 t ∧ Hid (Fn w wr gf g mb bb a cap N l t)) (fun i _ => N - (intOf i).toNat)
  case atStart => exact ⟨0, by omega, rfl, HF0⟩
  case round =>
    clear HF0
    obtain ⟨t, ht, rfl, HF⟩ := hrel
    by_cases hlt : t < N
    · obtain ⟨v, Rs, n, hfd, hen, hn, hbw, hvn⟩ := HF.out
      have hgs := HG.out
      have hrl := recs_len hfd.recs
      have c0 : wr.cell? ⟨gf, 0, none⟩ = some v := by rw [cell_of_row _ _ _ _ _ (0, 0) hfd.row]; rfl
      have HEN := Lib.hid (HEN0.out wr t n v Rs.flatten hen hlt (by omega) hfd.own hbw.size (by omega) (fun b hb => ⟨(hvn b hb).1, (hvn b hb).2.1, (hvn b hb).2.2.1, fun ad e => by have := HA.out ad e; have := (hvn b hb).2.2.2; omega⟩) (HDB.out wr hbw))
      have HGL : Hid (g < wr.heap.size ∧ bb < wr.heap.size ∧ mb < wr.heap.size) := Lib.hid (by obtain ⟨_, _, _, hf, _⟩ := hen; exact hf.lt)
      have HNT := Lib.hid hn
      have HFD := Lib.hid hfd
      have HBW := Lib.hid hbw
      have HVN := Lib.hid hvn
      clear hfd hen hbw hvn hrl HF
      go_wp2_with fail
      refine HEN.out.mono ?_
      rintro e w4 ⟨v4, Rt, rfl, hrec, how, hen4, hch, hv4⟩
      obtain ⟨a4, q4, rfl⟩ : ∃ a4 q4, v4 = .slice a4 (Rs.flatten ++ Rt).length q4 := by
        rcases own_nil_or how with ⟨h1, h2⟩ | ⟨g', cap', h1, _⟩
        · exact ⟨_, _, by rw [h1, h2]⟩
        · exact ⟨_, _, h1⟩
      have hsn := recs_snoc HFD.out.recs hrec
      have hl4 : (Rs.flatten ++ Rt).length ≤ 259 * (t + 1) := by have := recs_len hsn.1; rw [hsn.2.2.2] at this; exact this
      have hfdl : gf < wr.heap.size := (Array.getElem?_eq_some_iff.1 HFD.out.row).1
      have hns : gf ≠ mb ∧ gf ≠ bb ∧ w.heap.size ≠ mb ∧ w.heap.size ≠ bb := ⟨by omega, by omega, by omega, by omega⟩
      have hg4 := (hch.block gf hfdl (fun h => by rcases h with h | h | h; exact hns.1 h; exact hns.2.1 h; exact (HFD.out.n2 _ h).1 rfl)).trans HFD.out.row
      have k0 : w4.cell? ⟨gf, 0, none⟩ = some v := by rw [cell_of_row _ _ _ _ _ (0, 0) hg4]; rfl
      have k1 : w4.cell? ⟨gf, 1, none⟩ = some (.slice (some ⟨w.heap.size, 0, none⟩) N N) := by rw [cell_of_row _ _ _ _ _ (0, 0) hg4]; rfl
      have f0 := frozen_of_row w4 gf 0 _ _ hg4
      obtain ⟨M, hM⟩ : ∃ M, (Rs.flatten ++ Rt).length = M := ⟨_, rfl⟩
      have HW4 := Lib.hid (And.intro hrec (And.intro how (And.intro hen4 (And.intro hch hv4))))
      have HM := Lib.hid hM
      have hg5 : (w4.setCell ⟨gf, 0, none⟩ (.slice a4 M q4)).heap[gf]? = some (.cells #[.slice a4 M q4, .slice (some ⟨w.heap.size, 0, none⟩) N N] 78 (0, 0)) := by rw [heap_setCell_same _ _ _ _ _ _ hg4]; rfl
      rw [hM] at hl4
      have hwM : IntKind.i32.wrap (M : Int) = (M : Int) := by simp only [IntKind.wrap, IntKind.signed, IntKind.bits]; first | omega | (simp; omega)
      have i1 : (t : Int) < (N : Int) := by omega
      have he4 : ∃ z, w4.cell? ⟨w.heap.size, t, none⟩ = some z ∧ w4.frozen? ⟨w.heap.size, t, none⟩ = false := by
        obtain ⟨cs, hcs, q1, _⟩ := HFD.out.ends
        have hh := (hch.block w.heap.size (Array.getElem?_eq_some_iff.1 hcs).1 (fun h => by rcases h with h | h | h; exact hns.2.2.1 h; exact hns.2.2.2 h; exact (HFD.out.n2 _ h).2 rfl)).trans hcs
        exact ⟨cs[t], by rw [cell_of_row _ _ _ _ _ (0, 0) hh, Array.getElem?_eq_getElem (by omega)], frozen_of_row w4 _ t _ _ hh⟩
      obtain ⟨z4, ke, fe⟩ := he4
      have hgw : gf ≠ w.heap.size := HFD.out.n1
      rw [hM]
      clear hrec how hen4 hch hv4 hsn hM hg4 HEN hl4
      have ke5 : (w4.setCell ⟨gf, 0, none⟩ (.slice a4 M q4)).cell? ⟨w.heap.size, t, none⟩ = some z4 := (cell_set_other (fun e => hgw e.symm)).trans ke
      have fe5 : (w4.setCell ⟨gf, 0, none⟩ (.slice a4 M q4)).frozen? ⟨w.heap.size, t, none⟩ = false := by
        obtain ⟨cs, hcs, _, _⟩ := HFD.out.ends
        have c1 : Ch w4 (w4.setCell ⟨gf, 0, none⟩ (.slice a4 M q4)) (fun b => b = gf) := (Ch.refl w4 (fun b => b = gf)).set (.inl rfl) _
        have hh := (HW4.out.2.2.2.1.block w.heap.size (Array.getElem?_eq_some_iff.1 hcs).1 (fun h => by rcases h with h | h | h; exact hns.2.2.1 h; exact hns.2.2.2 h; exact (HFD.out.n2 _ h).2 rfl)).trans hcs
        exact frozen_of_row _ _ t _ _ ((c1.block w.heap.size (Array.getElem?_eq_some_iff.1 hh).1 (fun h => hgw h.symm)).trans hh)
      have m0 : (w4.setCell ⟨gf, 0, none⟩ (.slice a4 M q4)).cell? ⟨gf, 0, none⟩ = some (.slice a4 M q4) := by rw [cell_of_row _ _ _ _ _ (0, 0) hg5]; rfl
      have m1 : (w4.setCell ⟨gf, 0, none⟩ (.slice a4 M q4)).cell? ⟨gf, 1, none⟩ = some (.slice (some ⟨w.heap.size, 0, none⟩) N N) := by rw [cell_of_row _ _ _ _ _ (0, 0) hg5]; rfl
      have HFN : Hid (Fn w ((w4.setCell ⟨gf, 0, none⟩ (.slice a4 M q4)).drew.setCell ⟨w.heap.size, t, none⟩ (.int .i32 (M : Int))) gf g mb bb a cap N l (t + 1)) := Lib.hid (by
        obtain ⟨hrec, how, hen4, hch, hv4⟩ := HW4.out
        rw [HM.out] at hv4
        have h2 := fd_step HFD.out hrec hlt (v' := .slice a4 M q4) (by rw [HM.out] at how ⊢; exact how) hch hns hv4 (dn_below _ 1)
        rw [HM.out] at h2
        obtain ⟨top, f, tr, q1, q2, q3⟩ := hen4
        have gl := HGL.out
        have bl := HBW.out.size
        refine ⟨_, _, n + 1, h2.1, ⟨top, f, tr, q1.kept h2.2 (by omega) (by omega) (by omega) (fun ad e => by have := HA.out ad e; omega), q2, q3⟩, by have := HNT.out; omega, ?_, fun b hb => ?_⟩
        · have e1 := hch.below (B := w.heap.size) bl (fun k hk => by rcases hk with h | h | h; omega; omega; exact (HVN.out k h).2.2.2)
          have e2 := h2.2.below (B := w.heap.size) (Nat.le_trans bl hch.size) (fun k hk => by rcases hk with h | h <;> omega)
          exact (HBW.out.trans e1).trans e2
        · rcases hv4 b hb with h | h
          · exact HVN.out b h
          · exact ⟨by omega, by omega, by omega, by omega⟩)
      have HCL := Lib.hid (And.intro ke fe)
      clear ke fe hg5 HW4 k1
      go_wp2_with fail
      clear k0 f0
      revert HFN ke5 fe5 m0 m1
      generalize w4.setCell ⟨gf, 0, none⟩ (.slice a4 M q4) = w5
      intro ke5 fe5 m0 m1 HFN
      go_still_tail 12, (by kernel_rfl)
      change wpList _ _ _ _ _ w5.drew
      have n5 : w5.drew.cell? ⟨w.heap.size, t, none⟩ = some z4 := ke5
      have n6 : w5.drew.frozen? ⟨w.heap.size, t, none⟩ = false := fe5

      go_wp2

      go_roundw
      case rel => exact ⟨t + 1, by omega, by go_num, HFN⟩
      case measure => simp [intOf]; omega
    · obtain rfl : t = N := by omega
      obtain ⟨v, Rs, n, hfd, hen, hn, hbw, hvn⟩ := HF.out
      have HP : Hid (NfdPost w t l (.returned (.tuple #[.pointer (some ⟨gf, 0, none⟩), .nilIface])) wr) := Lib.hid ⟨gf, w.heap.size, v, Rs, rfl, hfd, by have := HG.out; omega, Nat.le_refl _, hbw⟩
      clear hfd hen hbw hvn HF
      go_wp2
      go_ret2
      exact HP.out
end Go.Proofs.YtdojhglpiejfjaaDoor
end

section
namespace Go.Proofs.YtdojhglpiejfjaaDoor
open Go.RowKit

/-- An iterator that may turn records of its own between two rounds, and tells each round what it may be handed next (Nx). -/
def IterN {α : Type} (F : Fence) (n : Nat) (P : Program) (g : Nat) (lb : Array Value) (encs : α → Array Value) (Kp : World → World → Prop) (S Sp : List α → Prop) (Nx : List α → α → Prop) (w : World) : Prop :=
  ∀ (y : Nat) (J Jx : List α → World → Prop) (V : World), Below w.heap.size w V → OwnFrom V.heap.size J → OwnFrom V.heap.size Jx → J [] V →
    (∀ pre x A, J pre A → Nx pre x → YieldAt F (n - 1) P y (encs x) A fun e A' => KeepsFrom V.heap.size A A' ∧
      ((e = .returned (.bool true) ∧ J (pre ++ [x]) A' ∧ Kp A A') ∨ (e = .returned (.bool false) ∧ Jx (pre ++ [x]) A'))) →
    CallsIn F n P g (#[.func (.yield y) #[] #[]] ++ lb) V fun e A' => (∃ v, e = .returned v) ∧ ((∃ xs, S xs ∧ J xs A') ∨ (∃ pre, Sp pre ∧ Jx pre A'))
theorem putN_same {A : World} {k : Nat} {o o' : Obj} (h : A.heap[k]? = some o) : (A.putObj k o').heap[k]? = some o' := World.putObj_heap_same (Array.getElem?_eq_some_iff.1 h).1
theorem putN_keeps {A : World} {B k : Nat} (o' : Obj) (hk : k < B) : KeepsFrom B A (A.putObj k o') :=
  ⟨by simp, fun j o hb hj _ => (World.putObj_heap_other (by omega)).trans hj⟩
theorem range_iterN {F : Fence} {n : Nat} {P : Program} {α : Type} {g : Operand} {ps : Array Tmp} {assign body : Code} {Q : Exit → Act → World → Prop} {a : Act} {w : World}
    (hro : F.round = none) (h1 : 1 ≤ n) {gf : Nat} {lb : Array Value} (hg : a.eval g = .func (.func gf) #[] lb) (hF : F.fn gf) (eg : ∀ args w, (callFunc gf args).run P w = .ok (.enter gf args) w)
    {encs : α → Array Value} {Kp : World → World → Prop} {S Sp : List α → Prop} {Nx : List α → α → Prop} (hseq : IterN F (n - 1) P gf lb encs Kp S Sp Nx w)
    (hKt : ∀ {A B C : World}, Kp A B → Kp B C → Kp A C) (hKb : ∀ (A : World) (k : Nat) (o o' : Obj), A.heap[k]? = some o → o.isCells = false → Kp A (A.putObj k o')) (hps : ∀ x, (encs x).size = ps.size)
    (I : List α → World → Prop) (Ix : Code → List α → World → Prop) (hI : OwnFrom w.heap.size I) (hX : ∀ c, OwnFrom w.heap.size (Ix c)) (h0 : I [] w) (act : α → Act)
    (has : ∀ (k : Nat) (x : α) (A : World) (K : Act → World → Prop), K (act x) A → assign.wpIn (F.inRound k) (n - 1 - 1) P (Exit.then K (fun _ _ _ => False)) { tmps := (ps.zip (encs x)).foldl (fun t (p, v) => t.setIfInBounds p v) a.tmps, defers := [] } A)
    (hbo : ∀ (k : Nat) (pre : List α) (x : α) (A : World), I pre A → Nx pre x → body.wpIn (F.inRound k) (n - 1 - 1) P (ownPostG w.heap.size Kp I Ix (pre ++ [x]) A) (act x) A)
    (hend : ∀ (xs : List α) (A : World), S xs → I xs A → A.heap[w.heap.size]? = some (.deferred (some [])) → Q .normal { a with defers := { target := .collected w.heap.size, args := #[] } :: a.defers } A)
    (hout : ∀ (c : Code) (pre : List α) (A : World), Sp pre → Ix c pre A → A.heap[w.heap.size]? = some (.deferred (some [])) → c.wpIn F n P Q { a with defers := { target := .collected w.heap.size, args := #[] } :: a.defers } A) :
    (Code.rangeFunc g ps assign body).wpIn F n P Q a w := by
  refine wpIn_rangeFunc fun fn hfn => ?_
  rw [hro]
  obtain ⟨d, hd⟩ : ∃ d, w.heap.size = d := ⟨_, rfl⟩
  rw [hd] at hI hX hbo hend hout
  obtain ⟨L, hL⟩ : ∃ L : LoopState → Option Code → Loop, L = fun s c => { state := s, pending := c, fn, tmps := a.tmps, params := ps, assign, body, defers := d } := ⟨_, rfl⟩
  have hV : ∃ V, (w.alloc (.deferred (some []))).alloc (.loop (L .ready none)) = V := ⟨_, rfl⟩
  obtain ⟨V, hV⟩ := hV
  have vz : V.heap.size = d + 2 := by rw [← hV, ← hd]; simp
  have v1 : V.heap[d + 1]? = some (.loop (L .ready none)) := by
    have := World.alloc_heap_new (w.alloc (.deferred (some []))) (.loop (L .ready none))
    rw [World.size_alloc, hd, hV] at this
    exact this
  have v0 : V.heap[d]? = some (.deferred (some [])) := by
    have := (Below.heap_alloc (w.alloc (.deferred (some []))) (.loop (L .ready none)) d (by simp; omega))
    rw [hV] at this
    rw [this, ← hd]; exact World.alloc_heap_new w _
  have vI : I [] V := by rw [← hV]; exact hI.alloc _ (hI.alloc _ h0)
  have vb : Below w.heap.size w V := by rw [← hV]; exact ((Below.refl _ w).alloc (Nat.le_refl _) _).alloc (by simp) _
  refine ⟨d + 1, [{ target := .collected d, args := #[] }], V, { target := .fn (.func gf) lb, args := #[.func (.yield (d + 1)) #[] #[]] }, V, gf, #[.func (.yield (d + 1)) #[] #[]] ++ lb, V, ?_, ?_, ?_, ?_, fun _ => h1, ?_⟩
  · have := run_enterLoop_outer (P := P) (w := w) fn a.tmps ps assign body
    rw [hd] at this
    rw [this, ← hV, hL]
  · simp only [resolve, hg]; simp [go_sem]
  · intro f' hf'
    simp [Target.leads] at hf'
    subst hf'; exact hF
  · simp [invoke, go_sem, eg]
  have two : ∀ {A A' : World} {row : Option Nat} {s : LoopState} {c : Option Code}, A.grownBy A' row → (∀ r, row = some r → V.heap.size ≤ r ∧ ∃ o : Obj, A.heap[r]? = some o ∧ o.isCells = false) →
      A.heap[d + 1]? = some (.loop (L s c)) ∧ A.heap[d]? = some (.deferred (some [])) → A'.heap[d + 1]? = some (.loop (L s c)) ∧ A'.heap[d]? = some (.deferred (some [])) := fun hgr hr h =>
    ⟨(hgr.block _ (Array.getElem?_eq_some_iff.1 h.1).1 (fun e => by have := (hr _ e.symm).1; omega)).trans h.1, (hgr.block _ (Array.getElem?_eq_some_iff.1 h.2).1 (fun e => by have := (hr _ e.symm).1; omega)).trans h.2⟩
  have up : ∀ {A : World} {row : Option Nat}, (∀ r, row = some r → V.heap.size ≤ r ∧ ∃ o : Obj, A.heap[r]? = some o ∧ o.isCells = false) → ∀ r, row = some r → d ≤ r ∧ ∃ o : Obj, A.heap[r]? = some o ∧ o.isCells = false := fun hr r e => ⟨by have := (hr r e).1; omega, (hr r e).2⟩
  refine (hseq (d + 1) (fun pre A => I pre A ∧ A.heap[d + 1]? = some (.loop (L .ready none)) ∧ A.heap[d]? = some (.deferred (some [])))
    (fun pre A => ∃ c, Ix c pre A ∧ A.heap[d + 1]? = some (.loop (L .done (some c))) ∧ A.heap[d]? = some (.deferred (some []))) V vb
    (fun s A A' row h hgr hr => ⟨hI s A A' row h.1 hgr (up hr), two hgr hr h.2⟩) (fun s A A' row ⟨c, h1, h2⟩ hgr hr => ⟨c, hX c s A A' row h1 hgr (up hr), two hgr hr h2⟩) ⟨vI, v1, v0⟩ ?_).mono ?_
  · rintro pre x A ⟨aI, a1, a0⟩ hlen
    have hy := run_yield (P := P) (args := encs x) a1 (by rw [hL]; exact hps x)
    rw [hL] at hy
    refine ⟨fn, _, assign, body, hy, roundIn_of_wpIn hfn (has _ x A _ ⟨_, run_beginRound a1 (by rw [hL]), ?_⟩)⟩
    obtain ⟨Z, hZ⟩ : ∃ Z, A.putObj (d + 1) (.loop { L .ready none with state := .busy }) = Z := ⟨_, rfl⟩
    have z1 : Z.heap[d + 1]? = some (.loop { L .ready none with state := .busy }) := by rw [← hZ]; exact putN_same a1
    have z0 : Z.heap[d]? = some (.deferred (some [])) := by rw [← hZ]; exact (World.putObj_heap_other (by omega)).trans a0
    have zI : I pre Z := by rw [← hZ]; exact hI.putObj _ aI (by omega) a1 rfl
    have zK : Kp A Z := by rw [← hZ]; exact hKb _ _ _ _ a1 rfl
    have zF : KeepsFrom V.heap.size A Z := by rw [← hZ]; exact putN_keeps _ (by omega)
    rw [hZ]
    have leave : ∀ (c : Option Code) (Y : World), KeepsFrom d Z Y → ∃ Y', (Instr.endRound (d + 1) c).run P Y = .ok (.bool c.isNone) Y' ∧ Y' = Y.putObj (d + 1) (.loop (L (if c.isNone then .ready else .done) c)) ∧ Y.heap[d + 1]? = some (.loop { L .ready none with state := .busy }) ∧
        (Y'.heap[d + 1]? = some (.loop (L (if c.isNone then .ready else .done) c)) ∧ Y'.heap[d]? = some (.deferred (some []))) ∧ KeepsFrom V.heap.size A Y' := fun c Y hY => by
      have y1 := hY.same _ _ (by omega) z1 rfl
      have y0 := hY.same _ _ (Nat.le_refl _) z0 rfl
      have r := run_endRound (P := P) c y1
      rw [hL] at r ⊢
      rw [hL] at y1
      refine ⟨_, r, rfl, y1, ⟨putN_same y1, (World.putObj_heap_other (by omega)).trans y0⟩, ?_⟩
      exact ⟨Nat.le_trans zF.size (by simpa using hY.size), fun k o hk hb hc => (World.putObj_heap_other (by omega)).trans (hY.same k o (by omega) (zF.same k o hk hb hc) hc)⟩
    refine wpIn_mono (hbo _ pre x Z zI hlen) ?_
    intro e a' Y hp
    have stop : ∀ c, KeepsFrom d Z Y → Ix c (pre ++ [x]) Y → ∃ v Y', (Instr.endRound (d + 1) (some c)).run P Y = .ok v Y' ∧ KeepsFrom V.heap.size A Y' ∧ ((Ending.returned v = .returned (.bool true) ∧ (I (pre ++ [x]) Y' ∧ Y'.heap[d + 1]? = some (.loop (L .ready none)) ∧ Y'.heap[d]? = some (.deferred (some []))) ∧ Kp A Y') ∨
        (Ending.returned v = .returned (.bool false) ∧ ∃ c, Ix c (pre ++ [x]) Y' ∧ Y'.heap[d + 1]? = some (.loop (L .done (some c))) ∧ Y'.heap[d]? = some (.deferred (some [])))) := fun c hk hx => by
      obtain ⟨Y', r, rfl, y1, yy, yk⟩ := leave (some c) Y hk
      exact ⟨_, _, r, yk, .inr ⟨rfl, c, (hX c).putObj _ hx (by omega) y1 rfl, yy⟩⟩
    cases e with
    | normal =>
      obtain ⟨hk, hkp, hi⟩ := hp
      obtain ⟨Y', r, rfl, y1, yy, yk⟩ := leave none Y hk
      exact ⟨_, _, r, yk, .inl ⟨rfl, ⟨hI.putObj _ hi (by omega) y1 rfl, yy⟩, hKt (hKt zK hkp) (hKb _ _ _ _ y1 rfl)⟩⟩
    | ret => exact stop _ hp.1 hp.2
    | exit id => exact stop _ hp.1 hp.2
    | goto t => exact stop _ hp.1 hp.2
    | panic ch => exact hp.elim
    | outgrown => exact hp.elim
  · rintro e Y ⟨⟨v, rfl⟩, (⟨xs, hS, hi, y1, y0⟩ | ⟨pre, hSp, c, hi, y1, y0⟩)⟩
    · have r := run_endLoop (P := P) y1 (by rw [hL]; simp)
      rw [hL] at r
      exact ⟨none, _, r, hend xs _ hS (hI.putObj _ hi (by omega) y1 rfl) ((World.putObj_heap_other (by omega)).trans y0)⟩
    · have r := run_endLoop (P := P) y1 (by rw [hL]; simp)
      rw [hL] at r
      exact ⟨some c, _, r, hout c pre _ hSp ((hX c).putObj _ hi (by omega) y1 rfl) ((World.putObj_heap_other (by omega)).trans y0)⟩
end Go.Proofs.YtdojhglpiejfjaaDoor
end
