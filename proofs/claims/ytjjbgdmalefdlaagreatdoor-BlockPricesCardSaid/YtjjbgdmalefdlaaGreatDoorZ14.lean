/- What make lays. slices.Grow at nil, and slices.Concat of any number of lists: their contracts. -/
import Derived.Test.YtjjbgdmalefdlaaGreatDoorZ8
import Derived.Test.YtjjbgdmalefdlaaGreatDoorZ9
import Derived.Test.YtjjbgdmalefdlaaGreatDoorZ10
import Derived.Lib.AppendZeros
set_option linter.unusedSimpArgs false
set_option linter.unusedVariables false
section
namespace Go.Proofs.YtjjbgdmalefdlaaGreatDoor
open Go.RowKit

theorem made_ints1 (n : Nat) : (madeCells #[.int .i64 0] (n * 1)).toList = ivs (List.replicate n 0) := by
  rw [made_all _ _ (.int .i64 0) (by simp) (fun i hi => by
    match i, hi with
    | 0, _ => rfl), Nat.mul_one]
  simp [ivs]
theorem wpl_make_full {P : Program} {w : World} {ops : Array Oper} {rest : List Oper} {o : Oper} {a : Act} {Q : Exit → Act → World → Prop} {t e : TypeId} {z : Value} {size by' : Nat} (R : RowTy P t e z size by') (hg : o.guard = none) (l c : Operand) (hop : o.op = Op.makeSlice t l c) (base : Nat)
    (kl kc : IntKind) (L C : Int) (n : Nat) (hl : a.eval l = .int kl L) (hc : a.eval c = .int kc C) (hL : L = (n : Int)) (hC : C = (n : Int)) (b2 : by' * n ≤ 281474976710656) (b3 : n ≤ 9223372036854775807) (b4 : base ≤ w.heap.size)
    (hK : ∀ w', w'.ownsRow base e size (.slice (some ⟨w.heap.size, 0, none⟩) n n) n (madeCells z.cells (n * size)).toList → w.grownBy w' none → wpList P ops Q rest (a.put o.dst (.slice (some ⟨w.heap.size, 0, none⟩) n n)) w') :
    wpList P ops Q (o :: rest) a w := by
  obtain ⟨i0, hi, hz0, hz1, hz2⟩ := info_parts R.info
  subst hz2
  exact wpList_make_full w hg l c t hop base e i0 z size R.ht hi hz0 hz1 kl kc L C n hl hc hL hC b2 (by unfold maxLen; omega) b4 hK
end Go.Proofs.YtjjbgdmalefdlaaGreatDoor
end

section
namespace Go.Proofs.YtjjbgdmalefdlaaGreatDoor
open Go.RowKit

def GrowPost (w : World) (e : Ending) (w' : World) : Prop :=
  ∃ cap, e = .returned (.slice (some ⟨w.heap.size, 0, none⟩) 0 cap) ∧ w'.ownsRow w.heap.size 3 1 (.slice (some ⟨w.heap.size, 0, none⟩) 0 cap) 0 [] ∧ Below w.heap.size w w'
set_option maxHeartbeats 2000000 in
set_option maxRecDepth 100000 in
theorem grow_any (n : Nat) (w : World) (h1 : 1 ≤ n) (hn : n ≤ 1000000) :
    Calls Tryz.prog 105 #[.slice none 0 0, .int .i64 (n : Nat)] w (GrowPost w) := by
  obtain ⟨i0, hi, hz0, hz1, hz2⟩ := info_parts tyI.info
  have happ := fun ty => Lib.run_append_nil_zeros (P := Tryz.prog) w 53 3 ty 3 i0 (.int .i64 0) .i64 .i64 tyI.ht (by kernel_rfl) hi hz0 n (by omega) (by omega) (by omega) (by rw [hz2]; omega)
  have hge := grownCap_ge w n 0 3
  have hle := grownCap_le_maxLen w n 0 3 (by unfold maxLen; omega)
  generalize grownCap w n 0 3 = c at *
  obtain ⟨cs, hcs⟩ : ∃ cs, Builtin.zeroCells (Value.int .i64 0).cells n ++ Builtin.zeroCells (Value.int .i64 0).cells (c - n) = cs := ⟨_, rfl⟩
  have hsz : cs.size = c := by
    rw [← hcs, Array.size_append, size_zeroCells, size_zeroCells]
    have : (Value.int .i64 0).cells.size = 1 := rfl
    rw [this]; omega
  rw [hcs] at happ
  clear hcs
  have d0 : decide ((n : Int) < 0) = false := by simp
  have d1 : decide (0 < (n : Int)) = true := by simp; omega
  go_enter Tryz.func105, Tryz.ntmps105
  go_wp2_with (at_builtin; refine Lib.wpList_append_run _ rfl _ _ _ _ rfl _ _ rfl rfl _ _ (happ _) ?_)
  go_wp2
  go_ret
  refine ⟨c, rfl, ⟨rfl, .inr ⟨w.heap.size, c, cs, rfl, Nat.le_refl _, heap_alloc_last w.drew _, by omega, hle, by rw [hsz, Nat.mul_one], by simp⟩⟩, ?_⟩
  exact below_then (below_alloc w (.cells cs 3)) (drewN_is _ 1)
def ConcatPost (w : World) (n : Nat) (l : List Int) (e : Ending) (w' : World) : Prop :=
  ∃ v, e = .returned v ∧ w'.ownsRow w.heap.size 3 1 v n (ivs l) ∧ Below w.heap.size w w'
/-- A part: where it lies, and what it is. -/
abbrev Cp := Option Addr × Nat × Nat × List Int
def cat (ps : List Cp) (k : Nat) : List Int := (ps.take k).flatMap fun c => c.2.2.2
theorem cat_succ {ps : List Cp} {k : Nat} {c : Cp} (h : ps[k]? = some c) : cat ps (k + 1) = cat ps k ++ c.2.2.2 := by
  obtain ⟨hk, rfl⟩ := List.getElem?_eq_some_iff.1 h
  unfold cat
  rw [List.take_succ_eq_append_getElem hk, List.flatMap_append]
  simp
theorem cat_le (ps : List Cp) (k : Nat) : (cat ps k).length ≤ (cat ps ps.length).length := by
  have e : cat ps ps.length = cat ps k ++ (ps.drop k).flatMap fun c => c.2.2.2 := by
    unfold cat
    rw [List.take_length, ← List.flatMap_append, List.take_append_drop]
  rw [e, List.length_append]; omega
/-- The parts, as they lie in a slice of slices. -/
def CatParts (w : World) (g : Nat) (ps : List Cp) : Prop := ∀ k a la ca l, ps[k]? = some (a, la, ca, l) → w.cell? ⟨g, k, none⟩ = some (.slice a la ca) ∧ Is .i64 w a la ca l
set_option maxHeartbeats 2000000 in
set_option maxRecDepth 100000 in
theorem concat_all (g n : Nat) (ps : List Cp) (w : World) (hg : g < w.heap.size) (hpl : ps.length = n) (hP : CatParts w g ps) (hn0 : n ≤ 1000) (h1 : 1 ≤ (cat ps n).length) (hn : (cat ps n).length ≤ 1000000) :
    Calls Tryz.prog 86 #[.slice (some ⟨g, 0, none⟩) n n] w (ConcatPost w (cat ps n).length (cat ps n)) := by
  have HP := Lib.hid hP
  have HL : Hid (∀ k, (cat ps k).length ≤ (cat ps n).length) := Lib.hid (fun k => by rw [← hpl]; exact cat_le ps k)
  have HN := Lib.hid hpl
  have HB := Lib.hid hn
  clear hP hpl
  go_enter Tryz.func86, Tryz.ntmps86
  go_wp2
  go_loop [3, 11] (fun s i => ∃ k m : Nat, k ≤ n ∧ i = .int .i64 (k : Nat) ∧ s = .int .i64 (m : Nat) ∧ Hid (m = (cat ps k).length)) (fun _ i => n - (intOf i).toNat)
  case atStart => exact ⟨0, 0, by omega, rfl, rfl, Lib.hid rfl⟩
  case round =>
    obtain ⟨k, m, hk, rfl, rfl, HM⟩ := hrel
    by_cases hlt : k < n
    · obtain ⟨a, la, ca, l, hps⟩ : ∃ a la ca l, ps[k]? = some (a, la, ca, l) := ⟨_, _, _, _, List.getElem?_eq_getElem (by rw [HN.out]; exact hlt)⟩
      obtain ⟨c0, hI⟩ := HP.out k a la ca l hps
      have hs := cat_succ hps
      have hml : m + la = (cat ps (k + 1)).length := by rw [hs, List.length_append, hI.hlen, HM.out]
      have hmb : m + la ≤ 1000000 := by have := HL.out (k + 1); omega
      have HM2 := Lib.hid hml
      have c1 : w.cell? ⟨g, 0 + k, none⟩ = some (.slice a la ca) := by rw [Nat.zero_add]; exact c0
      have d0 : decide (((m : Nat) : Int) + ((la : Nat) : Int) < 0) = false := by simp; omega
      clear hps hI hs hml
      go_wp2
      go_round
      case rel => exact ⟨k + 1, m + la, by omega, by go_num, by go_num, HM2⟩
      case measure => simp [intOf]; omega
    · obtain rfl : k = n := by omega
      have hm1 : 1 ≤ m ∧ m ≤ 1000000 := by have := HM.out; omega
      clear h1 hn
      go_wp2_with fail
      refine (grow_any m w hm1.1 hm1.2).mono ?_
      rintro e w1 ⟨cap, rfl, own1, hb1⟩
      have HX : Hid (w1.ownsRow w.heap.size 3 1 (.slice (some ⟨w.heap.size, 0, none⟩) 0 cap) 0 (ivs (cat ps 0)) ∧ Below w.heap.size w w1 ∧ 0 = (cat ps 0).length) := Lib.hid ⟨own1, hb1, rfl⟩
      clear own1 hb1
      go_wp2
      go_loopw [6, 27] (fun v i wr => ∃ j q : Nat, j ≤ k ∧ i = .int .i64 (j : Nat) ∧ Hid (wr.ownsRow w.heap.size 3 1 v q (ivs (cat ps j)) ∧ Below w.heap.size w wr ∧ q = (cat ps j).length)) (fun _ i _ => k - (intOf i).toNat)
      case atStart => exact ⟨0, 0, by omega, rfl, HX⟩
      case round =>
        obtain ⟨j, q, hj, rfl, HO⟩ := hrel
        have hzr := HO.out.2.1.size
        by_cases hlt : j < k
        · obtain ⟨a, la, ca, l, hps⟩ : ∃ a la ca l, ps[j]? = some (a, la, ca, l) := ⟨_, _, _, _, List.getElem?_eq_getElem (by rw [HN.out]; exact hlt)⟩
          obtain ⟨c0, hI⟩ := HP.out j a la ca l hps
          have hs := cat_succ hps
          have hml : q + la = (cat ps (j + 1)).length := by rw [hs, List.length_append, hI.hlen, HO.out.2.2]
          have hmb : q + la ≤ 1000000 := by have := HL.out (j + 1); have := HB.out; omega
          have c2 : wr.cell? ⟨g, j, none⟩ = some (.slice a la ca) := (HO.out.2.1.cell (p := ⟨g, j, none⟩) hg).trans c0
          have c1 : wr.cell? ⟨g, 0 + j, none⟩ = some (.slice a la ca) := by rw [Nat.zero_add]; exact c2
          have HS := Lib.hid (hI.mono HO.out.2.1).src
          have HE := Lib.hid (And.intro hs hml)
          clear hps hI hs hml c0
          go_wp2_with (at_builtin; refine wpl_append tyI rfl _ _ rfl HO.out.1 HS.out rfl rfl (by omega) (by omega) (by omega) ?_)
          intro v' w' own' hg' _
          have hb' : Below w.heap.size w w' := HO.out.2.1.grown hg' hzr (fun q hq => (HO.out.1.lt q hq).1)
          rw [← ivs_append, ← HE.out.1] at own'
          have HK2 := Lib.hid (And.intro own' (And.intro hb' HE.out.2))
          clear own' hb' hg' HO c1 c2 HS HE
          go_wp2
          go_roundw
          case rel => exact ⟨j + 1, q + la, by omega, by go_num, HK2⟩
          case measure => simp [intOf]; omega
        · obtain rfl : j = k := by omega
          have HF : Hid (∀ v, wr.ownsRow w.heap.size 3 1 v q (ivs (cat ps j)) → ConcatPost w (cat ps j).length (cat ps j) (.returned v) wr) := Lib.hid (fun v h => ⟨v, rfl, by rw [← HO.out.2.2]; exact h, HO.out.2.1⟩)
          have HO1 := Lib.hid HO.out.1
          clear HO
          go_wp2
          go_ret
          exact HF.out _ HO1.out
end Go.Proofs.YtjjbgdmalefdlaaGreatDoor
end
