/- Slices of items. merge.areWithin: its contract. block.alike: its contract. -/
import Derived.Test.YtjjbgdmalefdlaaGreatDoorZ1
import Derived.Test.YtjjbgdmalefdlaaGreatDoorZ3
import Derived.Test.YtjjbgdmalefdlaaGreatDoorZ8
import Derived.Test.YtjjbgdmalefdlaaGreatDoorZ9
import Derived.Test.YtjjbgdmalefdlaaGreatDoorZ13
import Derived.Deep.QuietTactic
import Derived.BigQuiet
set_option linter.unusedSimpArgs false
set_option linter.unusedVariables false
section
namespace Go.Proofs.YtjjbgdmalefdlaaGreatDoor
open Go.RowKit
open Mg (Itm)

/-- Items as cells. -/
def itv (A : List Itm) : List Value := A.flatMap fun x => [.int .i64 x.1, .bool x.2]
theorem itv_length (A : List Itm) : (itv A).length = A.length * 2 := by
  induction A with
  | nil => rfl
  | cons x A ih => simp [itv] at ih ⊢; omega
theorem itv_append (A B : List Itm) : itv (A ++ B) = itv A ++ itv B := by simp [itv]
theorem itv_get (A : List Itm) : ∀ i, i < A.length → (itv A)[i * 2]? = some (.int .i64 (A.getD i (0, false)).1) ∧ (itv A)[i * 2 + 1]? = some (.bool (A.getD i (0, false)).2) := by
  induction A with
  | nil => intro i h; simp at h
  | cons x A ih =>
    intro i h
    cases i with
    | zero => simp [itv]
    | succ i =>
      have := ih i (by simpa using h)
      have e : itv (x :: A) = .int .i64 x.1 :: .bool x.2 :: itv A := by simp [itv]
      rw [e, show (i + 1) * 2 = i * 2 + 1 + 1 by omega]
      simpa using this
theorem itv_one (A : List Itm) : ∀ u ∈ itv A, u.oneCell' = true := by
  intro u hu
  simp only [itv, List.mem_flatMap] at hu
  obtain ⟨x, _, hx⟩ := hu
  simp at hx
  rcases hx with rfl | rfl <;> rfl
/-- A slice of items. -/
structure Its (w : World) (a : Option Addr) (len cap : Nat) (A : List Itm) : Prop where
  hlen : A.length = len
  hle : len ≤ cap
  hnil : a = none → cap = 0
  at' : ∀ i, i < len → ∃ b off, a = some ⟨b, off, none⟩ ∧ b < w.heap.size ∧ w.cell? ⟨b, off + i * 2, none⟩ = some (.int .i64 (A.getD i (0, false)).1) ∧ w.cell? ⟨b, off + (i * 2 + 1), none⟩ = some (.bool (A.getD i (0, false)).2)
theorem Its.mono {w w' : World} {a : Option Addr} {len cap : Nat} {A : List Itm} (h : Its w a len cap A) (hb : Below w.heap.size w w') : Its w' a len cap A :=
  ⟨h.hlen, h.hle, h.hnil, fun i hi => by
    obtain ⟨b, off, e, hlt, h1, h2⟩ := h.at' i hi
    exact ⟨b, off, e, Nat.lt_of_lt_of_le hlt hb.size, by rw [hb.cell (p := ⟨b, off + i * 2, none⟩) hlt]; exact h1, by rw [hb.cell (p := ⟨b, off + (i * 2 + 1), none⟩) hlt]; exact h2⟩⟩
theorem Its.drop {w : World} {b off len cap : Nat} {A : List Itm} (h : Its w (some ⟨b, off, none⟩) len cap A) (s : Nat) (hs : s ≤ len) (ao : Option Addr) (hao : ¬ cap = s → ao = some ⟨b, off + s * 2, none⟩) : Its w ao (len - s) (cap - s) (A.drop s) := by
  have h1 := h.hlen
  have h2 := h.hle
  refine ⟨by simp; omega, by omega, fun e => ?_, fun i hi => ?_⟩
  · by_cases hc : cap = s
    · omega
    · rw [hao hc] at e; simp at e
  · obtain ⟨b', off', e', hb', c1, c2⟩ := h.at' (s + i) (by omega)
    simp only [Option.some.injEq, Addr.mk.injEq, and_true] at e'
    obtain ⟨rfl, rfl⟩ := e'
    refine ⟨b, off + s * 2, hao (by omega), hb', ?_, ?_⟩
    · rw [show off + s * 2 + i * 2 = off + (s + i) * 2 by omega, c1]; simp [List.getD, List.getElem?_drop]
    · rw [show off + s * 2 + (i * 2 + 1) = off + ((s + i) * 2 + 1) by omega, c2]; simp [List.getD, List.getElem?_drop]
theorem its_nil (w : World) : Its w none 0 0 [] := ⟨rfl, Nat.le_refl _, fun _ => rfl, fun i hi => absurd hi (by omega)⟩
theorem own_its {w : World} {base : Nat} {e : TypeId} {v : Value} {n : Nat} {A : List Itm} (h : w.ownsRow base e 2 v n (itv A)) : ∃ a cap, v = .slice a n cap ∧ Its w a n cap A := by
  have hn : A.length = n := by have := h.1; rw [itv_length] at this; omega
  rcases own_nil_or h with ⟨rfl, rfl⟩ | ⟨g, cap, rfl, hle, _⟩
  · have : A = [] := List.eq_nil_of_length_eq_zero hn
    subst this
    exact ⟨none, 0, rfl, its_nil w⟩
  · refine ⟨_, cap, rfl, hn, hle, fun e => by simp at e, fun i hi => ⟨g, 0, rfl, (h.lt g rfl).2, ?_, ?_⟩⟩
    · obtain ⟨t0, _⟩ := itv_get A i (by omega)
      rw [Nat.zero_add, h.cellAt (i * 2) (by omega)]; exact t0
    · obtain ⟨_, t1⟩ := itv_get A i (by omega)
      rw [Nat.zero_add, h.cellAt (i * 2 + 1) (by omega)]; exact t1
theorem tyIt : RowTy Tryz.prog 180 186 (.agg #[.int .i64 0, .bool false]) 2 16 := ⟨Tryz.underlying180, by kernel_rfl, rfl, by omega⟩
theorem src_item (w : World) (x : Int) (b : Bool) : SrcRow (w.alloc (.cells #[.int .i64 x, .bool b] 186)) (some ⟨w.heap.size, 0, none⟩) 1 1 (itv [(x, b)]) 2 :=
  src_new w #[.int .i64 x, .bool b] 186 1 1 2 rfl (by intro u hu; simp at hu; rcases hu with rfl | rfl <;> rfl)
/-- A slice of numbers, from some place on. -/
theorem Is.tail {k : IntKind} {w : World} {b off len cap : Nat} {l : List Int} (h : Is k w (some ⟨b, off, none⟩) len cap l) (s : Nat) (hs : s ≤ len) (ao : Option Addr) (hao : ¬ cap = s → ao = some ⟨b, off + s, none⟩) : Is k w ao (len - s) (cap - s) (l.drop s) := by
  have h1 := h.hlen
  have h2 := h.hle
  refine ⟨by simp; omega, by omega, fun e => ?_, fun i hi => ?_, fun n hn => h.wf n (List.mem_of_mem_drop hn)⟩
  · by_cases hc : cap = s
    · omega
    · rw [hao hc] at e; simp at e
  · obtain ⟨b', off', e', hb', hc⟩ := h.at' (s + i) (by omega)
    simp only [Option.some.injEq, Addr.mk.injEq, and_true] at e'
    obtain ⟨rfl, rfl⟩ := e'
    refine ⟨b, off + s, hao (by omega), hb', ?_⟩
    rw [Nat.add_assoc, hc]
    simp [List.getD, List.getElem?_drop]
end Go.Proofs.YtjjbgdmalefdlaaGreatDoor
end

section
namespace Go.Proofs.YtjjbgdmalefdlaaGreatDoor
open Go.RowKit

set_option maxHeartbeats 1000000 in
theorem within_any (a : Option Addr) (len cap : Nat) (l : List Int) (n : Nat) (t : Int) (w : World) (h : Is .i64 w a len cap l) (hr : len ≤ 140737488355328) (hn : n ≤ 1000000) (ht : 0 ≤ t ∧ t ≤ 1099511627776) :
    Calls Tryz.prog 112 #[.slice a len cap, .int .i64 n, .int .i64 t] w fun e w' => e = .returned (.bool (Mg.within l n t)) ∧ w = w' := by
  have HL := Lib.hid h.hlen
  have H := Lib.hid h
  clear h
  by_cases hbig : n < len
  · have d1 : decide ((n : Int) < (len : Int)) = true := by simp; omega
    have HX := Lib.hid (Mg.within_big l n t (by rw [HL.out]; exact hbig))
    go_enter Tryz.func112, Tryz.ntmps112
    go_wp2
    go_ret
    exact ⟨by rw [HX.out]; rfl, rfl⟩
  · have d1 : decide ((n : Int) < (len : Int)) = false := by simp; omega
    go_enter Tryz.func112, Tryz.ntmps112
    go_wp2
    go_loop [15] (fun i => ∃ k : Nat, k ≤ len ∧ i = .int .i64 k ∧ Hid (∀ j, j < k → 0 ≤ l.getD j 0 ∧ l.getD j 0 ≤ t)) (fun i => len - (intOf i).toNat)
    case atStart => exact ⟨0, by omega, rfl, Lib.hid (fun j hj => absurd hj (by omega))⟩
    case round =>
      obtain ⟨k, hk, rfl, HG⟩ := hrel
      by_cases hlt : k < len
      · obtain ⟨b, off, rfl, hb, hcell⟩ := H.out.at' k hlt
        have HB := Lib.hid (Mg.within_bad l n t k (by rw [HL.out]; exact hlt))
        have HG2 := Lib.hid (show 0 ≤ l.getD k 0 ∧ l.getD k 0 ≤ t → ∀ j, j < k + 1 → 0 ≤ l.getD j 0 ∧ l.getD j 0 ≤ t from fun hx j hj => by
          by_cases hjk : j < k
          · exact HG.out j hjk
          · obtain rfl : j = k := by omega
            exact hx)
        generalize l.getD k 0 = z at *
        by_cases hneg : z < 0
        · have dz : decide (z < 0) = true := by simpa using hneg
          have HX := Lib.hid (HB.out (.inl hneg))
          clear hneg
          go_wp2
          go_ret
          exact ⟨by rw [HX.out]; rfl, rfl⟩
        · have dz : decide (z < 0) = false := by simpa using hneg
          by_cases hhi : t < z
          · have dh : decide (t < z) = true := by simpa using hhi
            have HX := Lib.hid (HB.out (.inr hhi))
            clear hneg hhi
            go_wp2
            go_ret
            exact ⟨by rw [HX.out]; rfl, rfl⟩
          · have dh : decide (t < z) = false := by simpa using hhi
            have HG3 := Lib.hid (HG2.out ⟨by omega, by omega⟩)
            clear hneg hhi
            go_wp2
            go_round
            case rel => exact ⟨k + 1, by omega, by go_num, HG3⟩
            case measure => simp [intOf]; omega
      · obtain rfl : len = k := by omega
        have HX := Lib.hid (Mg.within_good l n t (by rw [HL.out]; omega) (fun j hj => HG.out j (by rw [HL.out] at hj; exact hj)))
        go_wp2
        go_ret
        exact ⟨by rw [HX.out]; rfl, rfl⟩
end Go.Proofs.YtjjbgdmalefdlaaGreatDoor
end

section
namespace Go.Proofs.YtjjbgdmalefdlaaGreatDoor
open Go.RowKit

/-- Some lengths from the first one on are the same; one at least, if there is one. -/
def Bl.AlPost (w : World) (len : Nat) (l : List Int) (e : Ending) (w' : World) : Prop :=
  ∃ c : Nat, e = .returned (.int .i64 c) ∧ c ≤ len ∧ (0 < len → 0 < c) ∧ (∀ i, i < c → l.getD i 0 = l.getD 0 0) ∧ (c < len → l.getD c 0 ≠ l.getD 0 0) ∧ ∃ n, w' = w.drewN n
theorem alike_any (a : Option Addr) (len cap : Nat) (l : List Int) (w : World) (h : Is .i64 w a len cap l) (hr : len ≤ 3000) :
    Calls Tryz.prog 103 #[.slice a len cap] w (Bl.AlPost w len l) := by
  have H := Lib.hid h
  clear h
  go_enter Tryz.func103, Tryz.ntmps103
  go_wp2
  go_loopw [3] (fun i wr => ∃ k : Nat, k ≤ len ∧ i = .int .i64 k ∧ (∃ n, wr = w.drewN n) ∧ Hid (∀ i, i < k → l.getD i 0 = l.getD 0 0)) (fun i _ => len - (intOf i).toNat)
  case atStart => exact ⟨0, by omega, rfl, ⟨0, rfl⟩, Lib.hid (fun i hi => by omega)⟩
  case round =>
    obtain ⟨k, hk, rfl, ⟨dn, rfl⟩, HT⟩ := hrel
    by_cases hlt : k < len
    · obtain ⟨b1, off1, rfl, _, c1⟩ := H.out.at' k hlt
      obtain ⟨b2, off2, e2, _, c0⟩ := H.out.at' 0 (by omega)
      simp only [Option.some.injEq, Addr.mk.injEq, and_true] at e2
      obtain ⟨rfl, rfl⟩ := e2
      have HE : Hid (l.getD k 0 = l.getD 0 0 → ∀ i, i < k + 1 → l.getD i 0 = l.getD 0 0) := Lib.hid (fun h i hi => by
        rcases Nat.lt_succ_iff_lt_or_eq.1 hi with h1 | rfl
        · exact HT.out i h1
        · exact h)
      have HP : Hid (l.getD k 0 ≠ l.getD 0 0 → ∀ n, Bl.AlPost w len l (.returned (.int .i64 k)) (w.drewN n)) := Lib.hid (fun h n => ⟨k, rfl, hk, fun _ => by
        rcases Nat.eq_zero_or_pos k with rfl | h0
        · exact absurd rfl h
        · exact h0, HT.out, fun _ => h, n, rfl⟩)
      rw [Nat.add_zero] at c0
      have hlen0 : 0 < len := by omega
      clear HT
      generalize l.getD k 0 = x at *
      generalize l.getD 0 0 = y at *
      by_cases hxy : x = y
      · subst hxy
        have HE2 := Lib.hid (HE.out rfl)
        have dxx : (x == x) = true := by simp
        clear HE HP
        go_wp2
        go_quiet (fail)
        go_wp2
        go_roundw
        case rel => exact ⟨k + 1, by omega, by go_num, ⟨_, rfl⟩, HE2⟩
        case measure => simp [intOf]; omega
      · have dxy : (x == y) = false := by simpa using hxy
        have HP2 := Lib.hid (HP.out hxy)
        clear HE HP hxy
        go_wp2
        go_quiet (fail)
        go_wp2
        go_ret
        rw [drewN_two]
        exact HP2.out _
    · obtain rfl : len = k := by omega
      have HP2 : Hid (∀ n, Bl.AlPost w len l (.returned (.int .i64 len)) (w.drewN n)) := Lib.hid (fun n => ⟨len, rfl, hk, fun h => h, HT.out, fun h => absurd h (by omega), n, rfl⟩)
      clear HT
      go_wp2
      go_quiet (fail)
      go_wp2
      go_ret
      rw [drewN_two]
      exact HP2.out _
end Go.Proofs.YtjjbgdmalefdlaaGreatDoor
end
