/- What a round keeps. The document's order of codes: sorted sizes, their sum, and which symbols. How bits are read by codes. A book of codes: its rows of symbols, where each length's codes begin, and what reading comes to. What is loaded out of a block's front. A book in memory. -/
import Derived.Test.YtpoilaappcjbeaaGreatDoorZ10
import Derived.RangeFuncBox
import Derived.OwnWalkIn
import Derived.RangeFuncFrom
set_option linter.unusedSimpArgs false
set_option linter.unusedVariables false
section
namespace Go.Proofs.YtpoilaappcjbeaaGreatDoor
open Go.RowKit
namespace Bk
/-- What a round keeps: all cells but those of U. -/
def Kc (U : Nat → Prop) (W W' : World) : Prop := ∀ k o, W.heap[k]? = some o → o.isCells = true → ¬ U k → W'.heap[k]? = some o
theorem Kc.refl (U : Nat → Prop) (W : World) : Kc U W W := fun _ _ h _ _ => h
theorem Kc.trans {U : Nat → Prop} {A B C : World} (h : Kc U A B) (k : Kc U B C) : Kc U A C := fun i o hi ho hu => k i o (h i o hi ho hu) ho hu
theorem Kc.alloc (U : Nat → Prop) (W : World) (o : Obj) : Kc U W (W.alloc o) := fun k _ hk _ _ => (Below.heap_alloc W o k (Array.getElem?_eq_some_iff.1 hk).1).trans hk
theorem Kc.grown {U : Nat → Prop} {W W' : World} {row : Option Nat} (hg : W.grownBy W' row) (hr : ∀ r, row = some r → U r ∨ W.heap.size ≤ r) : Kc U W W' := fun k o hk _ hu => by
  have hlt := (Array.getElem?_eq_some_iff.1 hk).1
  exact (hg.block k hlt (fun e => (hr k e.symm).elim hu (fun h => by omega))).trans hk
theorem Kc.drew {U : Nat → Prop} {A B : World} (h : Kc U A B) : Kc U A B.drew := h
theorem Kc.set {U : Nat → Prop} (W : World) (p : Addr) (hp : U p.block) (v : Value) : Kc U W (W.setCell p v) := fun k _ hk _ hu => (Below.heap_setCell W p v k (fun e => hu (e ▸ hp))).trans hk
theorem Kc.put {U : Nat → Prop} (W : World) (l : Nat) (o o' : Obj) (h : W.heap[l]? = some o) (hc : o.isCells = false) : Kc U W (W.putObj l o') := fun k o2 hk ho _ => by
  have : k ≠ l := fun e => by subst e; rw [h] at hk; cases hk; rw [hc] at ho; cases ho
  exact (World.putObj_heap_other this).trans hk
theorem own_same {w w' : World} {B : Nat} {e : TypeId} {size : Nat} {v : Value} {n : Nat} {xs : List Value} (h : w.ownsRow B e size v n xs) (hk : ∀ g, v.ownBlock = some g → w'.heap[g]? = w.heap[g]?) : w'.ownsRow B e size v n xs := by
  obtain ⟨h1, h2⟩ := h
  refine ⟨h1, ?_⟩
  rcases h2 with h2 | ⟨g, cap, cur, rfl, hb, hg, r⟩
  · exact .inl h2
  · exact .inr ⟨g, cap, cur, rfl, hb, (hk g rfl).trans hg, r⟩
theorem own_kc {U : Nat → Prop} {w w' : World} {B : Nat} {e : TypeId} {size : Nat} {v : Value} {n : Nat} {xs : List Value} (h : w.ownsRow B e size v n xs) (c : Kc U w w') (hn : ∀ g, v.ownBlock = some g → ¬ U g) : w'.ownsRow B e size v n xs := by
  obtain ⟨h1, h2⟩ := h
  refine ⟨h1, ?_⟩
  rcases h2 with h2 | ⟨g, cap, cur, rfl, hb, hg, r⟩
  · exact .inl h2
  · exact .inr ⟨g, cap, cur, rfl, hb, c g _ hg rfl (hn g rfl), r⟩
theorem boxed_setO {W : World} {B b : Nat} {t : TypeId} {v : Value} (h : Boxed W B t v) (hne : B ≠ b) (o : Nat) (u : Value) : Boxed (W.setCell ⟨b, o, none⟩ u) B t v := (Below.heap_setCell W ⟨b, o, none⟩ u B hne).trans h
theorem kc_cells {W W' : World} {row : Option Nat} (hg : W.grownBy W' row) (hr : ∀ r, row = some r → ∃ o : Obj, W.heap[r]? = some o ∧ o.isCells = false) : Kc (fun _ => False) W W' := fun k o hk ho _ => by
  refine (hg.block k (Array.getElem?_eq_some_iff.1 hk).1 (fun e => ?_)).trans hk
  obtain ⟨o', ho', hc⟩ := hr k e.symm
  rw [hk] at ho'; cases ho'; rw [ho] at hc; cases hc
end Bk
end Go.Proofs.YtpoilaappcjbeaaGreatDoor
end

section
namespace Go.Proofs.YtpoilaappcjbeaaGreatDoor
open Go.RowKit

namespace Cn
theorem sizN_low (l : List Int) (m : Nat) : ∀ x ∈ sizN l m, 1 ≤ x ∧ x ≤ m := by
  intro x hx
  simp only [sizN, List.mem_flatMap, List.mem_range, List.mem_map] at hx
  obtain ⟨n, hn, _, _, rfl⟩ := hx
  omega
theorem sizN_sorted (l : List Int) (m : Nat) : (sizN l m).Pairwise (· ≤ ·) := by
  induction m with
  | zero => exact List.Pairwise.nil
  | succ m ih =>
    rw [sizN_succ, List.pairwise_append]
    refine ⟨ih, ?_, fun x hx y hy => ?_⟩
    · rw [List.pairwise_map]
      generalize row l m l.length = r
      induction r with
      | nil => exact List.Pairwise.nil
      | cons a r ih2 => exact List.Pairwise.cons (fun _ _ => Int.le_refl _) ih2
    · obtain ⟨_, _, rfl⟩ := List.mem_map.1 hy
      have := sizN_low l m x hx
      omega
theorem row_count (l : List Int) (m : Nat) : ∀ k, k ≤ l.length → (row l m k).length = (l.take k).countP (fun x => x == ((m + 1 : Nat) : Int)) := by
  intro k
  induction k with
  | zero => intro _; simp [row]
  | succ k ih =>
    intro hk
    have hg : l.getD k 0 = l[k] := by simp [List.getD, List.getElem?_eq_getElem (show k < l.length by omega)]
    rw [row_succ, List.length_append, ih (by omega), List.take_succ_eq_append_getElem (show k < l.length by omega), List.countP_append, hg]
    by_cases h : (l[k] == ((m + 1 : Nat) : Int)) = true
    · rw [if_pos h, List.countP_cons_of_pos (p := fun x => x == ((m + 1 : Nat) : Int)) h]; rfl
    · rw [if_neg h, List.countP_cons_of_neg (p := fun x => x == ((m + 1 : Nat) : Int)) h]; rfl
def sumTo (l : List Int) (m : Nat) : Nat := (l.map fun (n : Int) => if n ≤ (m : Int) then part n else 0).sum
theorem sumTo_succ (l : List Int) (m : Nat) : sumTo l (m + 1) = sumTo l m + l.countP (fun x => x == ((m + 1 : Nat) : Int)) * part ((m + 1 : Nat) : Int) := by
  induction l with
  | nil => simp [sumTo]
  | cons x l ih =>
    have e1 : sumTo (x :: l) (m + 1) = (if x ≤ ((m + 1 : Nat) : Int) then part x else 0) + sumTo l (m + 1) := rfl
    have e2 : sumTo (x :: l) m = (if x ≤ (m : Int) then part x else 0) + sumTo l m := rfl
    rw [e1, e2, ih]
    by_cases h : x = ((m + 1 : Nat) : Int)
    · rw [List.countP_cons_of_pos (by simpa using h), if_pos (by omega), if_neg (by omega), h, Nat.succ_mul]; omega
    · rw [List.countP_cons_of_neg (by simpa using h)]
      by_cases h2 : x ≤ (m : Int)
      · rw [if_pos (by omega), if_pos h2]; omega
      · rw [if_neg (by omega), if_neg h2]; omega
theorem sum_sizN (l : List Int) (m : Nat) (h0 : ∀ x ∈ l, 0 ≤ x) : sum (sizN l m) = sumTo l m := by
  induction m with
  | zero =>
    have : sumTo l 0 = 0 := by
      unfold sumTo
      induction l with
      | nil => rfl
      | cons x l ih =>
        rw [List.map_cons, List.sum_cons, ih (fun y hy => h0 y (List.mem_cons_of_mem _ hy))]
        have := h0 x (List.mem_cons_self ..)
        by_cases h : x ≤ ((0 : Nat) : Int)
        · rw [if_pos h]; unfold part; rw [if_pos (by omega)]
        · rw [if_neg h]
    rw [this]; rfl
  | succ m ih =>
    rw [sizN_succ, sumTo_succ, ← ih]
    have hr := row_count l m l.length (Nat.le_refl _)
    rw [List.take_length] at hr
    rw [← hr]
    unfold sum
    rw [List.map_append, List.sum_append, List.map_map]
    congr 1
    generalize row l m l.length = r
    induction r with
    | nil => simp
    | cons a r ih2 => rw [List.map_cons, List.sum_cons, ih2, List.length_cons, Nat.succ_mul, Nat.add_comm]; rfl
theorem form_mem (l : List Int) (h : formB l = true) : ∀ x ∈ l, 0 ≤ x ∧ x ≤ 16 := by
  intro x hx
  simp only [formB, Bool.and_eq_true, List.all_eq_true, decide_eq_true_eq] at h
  exact h.2 x hx
theorem sumTo_all (l : List Int) (m : Nat) (h : ∀ x ∈ l, x ≤ (m : Int)) : sumTo l m = sum l := by
  unfold sumTo sum
  congr 1
  exact List.map_congr_left (fun x hx => if_pos (h x hx))
theorem sum_sizes (l : List Int) (h : formB l = true) : sum (sizes l) = sum l := by
  unfold sizes
  rw [sum_sizN l 16 (fun x hx => (form_mem l h x hx).1), sumTo_all l 16 (fun x hx => (form_mem l h x hx).2)]
/-- The codes of lengths in form: each as long as asked for, and where it begins. -/
theorem sizes_val (l : List Int) (h : freeB l = true) (i : Nat) (hi : i < (sizes l).length) :
    ((codes (sizes l)).getD i []).length = ((sizes l).getD i 0).toNat ∧ Bt.numH ((codes (sizes l)).getD i []) * 2 ^ (16 - ((sizes l).getD i 0).toNat) = sum ((sizes l).take i) := by
  simp only [freeB, Bool.and_eq_true, decide_eq_true_eq] at h
  have hg : ∀ j (hj : j < (sizes l).length), (sizes l).getD j 0 = (sizes l)[j] := fun j hj => by simp [List.getD, List.getElem?_eq_getElem hj]
  refine codes_val (sizes l) (fun j hj => ?_) (fun j hj => ?_) (by rw [sum_sizes l h.1]; exact h.2) i hi
  · rw [hg j hj]; exact sizN_low l 16 _ (List.getElem_mem hj)
  · rw [hg j (by omega), hg (j + 1) hj]
    exact List.pairwise_iff_getElem.1 (sizN_sorted l 16) j (j + 1) (Nat.lt_of_succ_lt hj) hj (Nat.lt_succ_self _)
/-- Symbols and lengths, in the order of their codes. -/
def pairs (l : List Int) (m : Nat) : List (Nat × Int) := (List.range m).flatMap fun n => (row l n l.length).map fun s => (s, ((n + 1 : Nat) : Int))
theorem pairs_syms (l : List Int) : syms l = (pairs l 16).map fun p => (p.1 : Int) := by
  simp only [syms, symN, pairs, List.map_flatMap, List.map_map]; rfl
theorem pairs_sizes (l : List Int) : sizes l = (pairs l 16).map fun p => p.2 := by
  simp only [sizes, sizN, pairs, List.map_flatMap, List.map_map]; rfl
theorem pairs_mem (l : List Int) (m s : Nat) (n : Int) : (s, n) ∈ pairs l m ↔ s < l.length ∧ l.getD s 0 = n ∧ 1 ≤ n ∧ n ≤ m := by
  simp only [pairs, List.mem_flatMap, List.mem_range, List.mem_map, row, List.mem_filter, beq_iff_eq, Prod.mk.injEq]
  constructor
  · rintro ⟨k, hk, t, ⟨ht, he⟩, rfl, rfl⟩
    exact ⟨ht, he, by omega, by omega⟩
  · rintro ⟨hs, he, h1, h2⟩
    exact ⟨n.toNat - 1, by omega, s, ⟨hs, by omega⟩, rfl, by omega⟩
theorem pairs_nodup (l : List Int) (m : Nat) : ((pairs l m).map fun p => p.1).Nodup := by
  induction m with
  | zero => exact List.Pairwise.nil
  | succ m ih =>
    have e : pairs l (m + 1) = pairs l m ++ (row l m l.length).map fun s => (s, ((m + 1 : Nat) : Int)) := by simp [pairs, List.range_succ]
    rw [e, List.map_append, List.map_map, List.nodup_append]
    refine ⟨ih, ?_, ?_⟩
    · have : ((fun p : Nat × Int => p.1) ∘ fun s : Nat => (s, ((m + 1 : Nat) : Int))) = id := rfl
      rw [this, List.map_id]
      exact List.Pairwise.filter _ List.nodup_range
    · intro a ha b hb hab
      obtain ⟨⟨s, n⟩, hp, rfl⟩ := List.mem_map.1 ha
      obtain ⟨t, ht, rfl⟩ := List.mem_map.1 hb
      obtain ⟨_, h1, _, h2⟩ := (pairs_mem l m s n).1 hp
      simp only [row, List.mem_filter, beq_iff_eq] at ht
      simp only [Function.comp] at hab
      subst hab
      omega
end Cn
end Go.Proofs.YtpoilaappcjbeaaGreatDoor
end

section
namespace Go.Proofs.YtpoilaappcjbeaaGreatDoor
open Go.RowKit

namespace Cn
/-- Do b and u begin with the same n bits, up to b's end? -/
def same (u : List Bool) (n : Nat) (b : List Bool) : Bool := decide (b.take (min n b.length) = u.take (min n b.length))
def hit (u : List Bool) (n : Nat) (c : Int × List Bool) : Bool := same u n c.2 && decide (c.2.length = n)
def more (u : List Bool) (n : Nat) (c : Int × List Bool) : Bool := same u n c.2 && decide (n < c.2.length)
def rdAt (ks : List (Int × List Bool)) (u : List Bool) : Nat → Nat → Int × Nat × Int
  | 0, _ => (0, 16, 2)
  | f + 1, n => if u.length < n then (0, u.length, 8) else
    match ks.find? (hit u n) with
    | some c => (c.1, n, 0)
    | none => if ks.any (more u n) then rdAt ks u f (n + 1) else (0, n, 2)
/-- The symbol that bits begin with, how many bits are read, and an error's number. -/
def rd (ks : List (Int × List Bool)) (u : List Bool) : Int × Nat × Int := if ks = [] then (0, 0, 2) else rdAt ks u 16 1
theorem rdAt_step (ks : List (Int × List Bool)) (u : List Bool) (m : Nat) (hm : m ≤ 16) : rdAt ks u (17 - m) m = if u.length < m then (0, u.length, 8) else
    match ks.find? (hit u m) with
    | some c => (c.1, m, 0)
    | none => if ks.any (more u m) then rdAt ks u (17 - (m + 1)) (m + 1) else (0, m, 2) := by
  have e1 : 17 - m = (16 - m) + 1 := by omega
  have e2 : 17 - (m + 1) = 16 - m := by omega
  rw [e1, e2]; rfl
theorem same_step (u b : List Bool) (k : Nat) (hb : k < b.length) (hu : k < u.length) : decide (b.take (k + 1) = u.take (k + 1)) = (decide (b.take k = u.take k) && (b.getD k false == u.getD k false)) := by
  have t1 := List.take_succ_eq_append_getElem hb
  have t2 := List.take_succ_eq_append_getElem hu
  have l1 : (b.take k).length = (u.take k).length := by rw [List.length_take, List.length_take]; omega
  have e1 : b.getD k false = b[k] := by simp [List.getD, List.getElem?_eq_getElem hb]
  have e2 : u.getD k false = u[k] := by simp [List.getD, List.getElem?_eq_getElem hu]
  rw [t1, t2, e1, e2, Bool.eq_iff_iff]
  simp only [decide_eq_true_eq, Bool.and_eq_true, beq_iff_eq]
  exact ⟨fun e => ⟨(List.append_inj e l1).1, by have := (List.append_inj e l1).2; simpa only [List.cons.injEq, and_true] using this⟩, fun ⟨h1, h2⟩ => by rw [h1, h2]⟩
end Cn
end Go.Proofs.YtpoilaappcjbeaaGreatDoor
end

section
namespace Go.Proofs.YtpoilaappcjbeaaGreatDoor
open Go.RowKit

namespace Bk
/-- A symbol, its code, and how many bits it has. -/
structure It where
  s : Nat
  c : Nat
  n : Nat

instance : Inhabited It := ⟨⟨0, 0, 0⟩⟩
def It.bits (x : It) : List Bool := Bt.dg true x.c x.n
/-- The next code behind those of fewer than n bits. -/
def nx (R : Nat → List Nat) : Nat → Nat
  | 0 => 0
  | n + 1 => 2 * nx R n + (R n).length
/-- The first code of n bits. -/
def fst (R : Nat → List Nat) (n : Nat) : Nat := 2 * nx R n
def sumR (R : Nat → List Nat) : Nat → Nat
  | 0 => 0
  | n + 1 => sumR R n + (R n).length * 2 ^ (16 - n)
def it (R : Nat → List Nat) (n i : Nat) : It := ⟨(R n).getD i 0, fst R n + i, n⟩
def rowS (R : Nat → List Nat) (n i : Nat) : List It := (List.range i).map (it R n)
/-- The codes of fewer than m bits, in their order. -/
def seq (R : Nat → List Nat) (m : Nat) : List It := (List.range m).flatMap fun n => rowS R n (R n).length
def sizR (R : Nat → List Nat) (m : Nat) : List Int := (List.range m).flatMap fun n => List.replicate (R n).length (n : Int)
structure Good (R : Nat → List Nat) : Prop where
  r0 : R 0 = []
  le : sumR R 17 ≤ 65536
theorem nx_succ (R : Nat → List Nat) (n : Nat) : nx R (n + 1) = fst R n + (R n).length := rfl
theorem pow_split (n m : Nat) (h : n ≤ m) (hm : m ≤ 16) : 2 ^ (16 - n) = 2 ^ (m - n) * 2 ^ (16 - m) := by
  rw [← Nat.pow_add]; congr 1; omega
theorem nx_val (R : Nat → List Nat) : ∀ n, n ≤ 16 → nx R (n + 1) * 2 ^ (16 - n) = sumR R (n + 1) := by
  intro n
  induction n with
  | zero => intro _; simp [nx, sumR]
  | succ n ih =>
    intro h
    have h1 := ih (by omega)
    have h2 := pow_split n (n + 1) (by omega) h
    rw [show n + 1 - n = 1 by omega, Nat.pow_one] at h2
    rw [h2] at h1
    have e1 : nx R (n + 1 + 1) = 2 * nx R (n + 1) + (R (n + 1)).length := rfl
    have e2 : sumR R (n + 1 + 1) = sumR R (n + 1) + (R (n + 1)).length * 2 ^ (16 - (n + 1)) := rfl
    rw [e1, e2, ← h1, Nat.add_mul]
    congr 1
    rw [Nat.mul_comm 2, Nat.mul_assoc]
theorem fst_val (R : Nat → List Nat) (n : Nat) (h : n ≤ 16) : fst R n * 2 ^ (16 - n) = sumR R n := by
  cases n with
  | zero => simp [fst, nx, sumR]
  | succ n =>
    have h1 := nx_val R n (by omega)
    have h2 := pow_split n (n + 1) (by omega) h
    rw [show n + 1 - n = 1 by omega, Nat.pow_one] at h2
    rw [← h1, h2]
    unfold fst
    rw [Nat.mul_comm 2, Nat.mul_assoc]
theorem end_val (R : Nat → List Nat) : nx R 17 = sumR R 17 := by have := nx_val R 16 (Nat.le_refl _); simpa using this
theorem sumR_mono (R : Nat → List Nat) (m n : Nat) (h : m ≤ n) : sumR R m ≤ sumR R n := by
  induction n with
  | zero => obtain rfl : m = 0 := by omega
            exact Nat.le_refl _
  | succ n ih =>
    by_cases h2 : m ≤ n
    · have := ih h2; show _ ≤ sumR R n + _; omega
    · obtain rfl : m = n + 1 := by omega
      exact Nat.le_refl _
theorem two_pos (n : Nat) : 0 < 2 ^ n := Nat.pow_pos (by omega)
theorem code_lt (R : Nat → List Nat) (h : Good R) (n i : Nat) (hn : n ≤ 16) (hi : i ≤ (R n).length) : fst R n + i ≤ 2 ^ n := by
  have h1 := nx_val R n hn
  rw [nx_succ] at h1
  have h2 := sumR_mono R (n + 1) 17 (by omega)
  have h3 := h.le
  have h4 : (2 : Nat) ^ n * 2 ^ (16 - n) = 65536 := by rw [← Nat.pow_add, show n + (16 - n) = 16 by omega]
  have h5 : (fst R n + (R n).length) * 2 ^ (16 - n) ≤ 2 ^ n * 2 ^ (16 - n) := by omega
  have := Nat.le_of_mul_le_mul_right h5 (two_pos _)
  omega
theorem it_lt (R : Nat → List Nat) (h : Good R) (n i : Nat) (hn : n ≤ 16) (hi : i < (R n).length) : (it R n i).c < 2 ^ n := by
  have := code_lt R h n (i + 1) hn hi
  show fst R n + i < 2 ^ n
  omega
theorem mem_seq (R : Nat → List Nat) (m : Nat) (x : It) : x ∈ seq R m ↔ ∃ n i, n < m ∧ i < (R n).length ∧ x = it R n i := by
  simp only [seq, rowS, List.mem_flatMap, List.mem_range, List.mem_map]
  constructor
  · rintro ⟨n, hn, i, hi, rfl⟩; exact ⟨n, i, hn, hi, rfl⟩
  · rintro ⟨n, i, hn, hi, rfl⟩; exact ⟨n, hn, i, hi, rfl⟩
theorem seq_succ (R : Nat → List Nat) (m : Nat) : seq R (m + 1) = seq R m ++ rowS R m (R m).length := by simp [seq, List.range_succ]
theorem sizR_succ (R : Nat → List Nat) (m : Nat) : sizR R (m + 1) = sizR R m ++ List.replicate (R m).length (m : Int) := by simp [sizR, List.range_succ]
theorem rowS_succ (R : Nat → List Nat) (n i : Nat) : rowS R n (i + 1) = rowS R n i ++ [it R n i] := by simp [rowS, List.range_succ]
theorem rowS_length (R : Nat → List Nat) (n i : Nat) : (rowS R n i).length = i := by simp [rowS]
theorem seq_mono (R : Nat → List Nat) (m n : Nat) (h : m ≤ n) : ∃ t, seq R n = seq R m ++ t := by
  induction n with
  | zero => obtain rfl : m = 0 := by omega
            exact ⟨[], by simp⟩
  | succ n ih =>
    by_cases h2 : m ≤ n
    · obtain ⟨t, ht⟩ := ih h2
      exact ⟨t ++ rowS R n (R n).length, by rw [seq_succ, ht, List.append_assoc]⟩
    · obtain rfl : m = n + 1 := by omega
      exact ⟨[], by simp⟩
/-- Bits and numbers. -/
theorem dg_of_num (b : List Bool) (n : Nat) (h : b.length = n) : Bt.dg true (Bt.numH b) n = b := by
  subst h
  apply List.ext_getElem
  · simp [Bt.dg_length]
  · intro i h1 h2
    have e := Bt.dg_getD true (Bt.numH b) b.length i false h2
    rw [List.getD, List.getElem?_eq_getElem h1, Option.getD_some] at e
    rw [e, if_pos rfl, Bt.numH_testBit]
    have e2 : b.length - 1 - (b.length - 1 - i) = i := by omega
    rw [e2]
    have e3 : decide (b.length - 1 - i < b.length) = true := decide_eq_true (by omega)
    rw [e3]
    simp [List.getD, List.getElem?_eq_getElem h2]
theorem numH_dg (c n : Nat) (h : c < 2 ^ n) : Bt.numH (Bt.dg true c n) = c := Bt.num_dg true c n h
theorem dg_take (c m n : Nat) (h : n ≤ m) : (Bt.dg true c m).take n = Bt.dg true (c / 2 ^ (m - n)) n := by
  apply List.ext_getElem
  · simp [Bt.dg_length]; omega
  · intro i h1 h2
    rw [Bt.dg_length] at h2
    simp only [Bt.dg, List.getElem_take, List.getElem_map, List.getElem_range, if_true]
    rw [← Nat.shiftRight_eq_div_pow, Nat.testBit_shiftRight]
    congr 1; omega
theorem codes_eq_of (zs : List Int) (xs : List It) (hl : zs.length = xs.length) (hz : ∀ i, i < zs.length → 1 ≤ zs.getD i 0 ∧ zs.getD i 0 ≤ 16)
    (hs : ∀ i, i + 1 < zs.length → zs.getD i 0 ≤ zs.getD (i + 1) 0) (hk : Cn.sum zs ≤ 65536)
    (hx : ∀ i, i < zs.length → zs.getD i 0 = ((xs.getD i default).n : Nat) ∧ Cn.sum (zs.take i) = (xs.getD i default).c * 2 ^ (16 - (xs.getD i default).n)) :
    Cn.codes zs = xs.map It.bits := by
  apply List.ext_getElem
  · rw [Cn.codes_length, List.length_map, hl]
  · intro i h1 h2
    rw [Cn.codes_length] at h1
    obtain ⟨hv1, hv2⟩ := Cn.codes_val zs hz hs hk i h1
    obtain ⟨hx1, hx2⟩ := hx i h1
    have hxl : i < xs.length := by omega
    have e1 : (Cn.codes zs).getD i [] = (Cn.codes zs)[i]'(by rw [Cn.codes_length]; exact h1) := by simp [List.getD, List.getElem?_eq_getElem (show i < (Cn.codes zs).length by rw [Cn.codes_length]; exact h1)]
    have e2 : xs.getD i default = xs[i] := by simp [List.getD, List.getElem?_eq_getElem hxl]
    rw [e1] at hv1 hv2
    rw [e2] at hx1 hx2
    rw [List.getElem_map]
    rw [hx1] at hv1 hv2
    simp only [Int.toNat_natCast] at hv1 hv2
    rw [hx2] at hv2
    have := Nat.eq_of_mul_eq_mul_right (two_pos _) hv2
    rw [It.bits, ← this, dg_of_num _ _ hv1]
/-- How lengths and codes go together, up to somewhere. -/
structure Tog (zs : List Int) (xs : List It) : Prop where
  len : zs.length = xs.length
  one : ∀ i, i < zs.length → 1 ≤ zs.getD i 0 ∧ zs.getD i 0 ≤ 16 ∧ zs.getD i 0 = ((xs.getD i default).n : Nat) ∧ Cn.sum (zs.take i) = (xs.getD i default).c * 2 ^ (16 - (xs.getD i default).n)
theorem Tog.snoc {zs : List Int} {xs : List It} (h : Tog zs xs) (x : It) (hn : 1 ≤ x.n) (hn2 : x.n ≤ 16) (hs : Cn.sum zs = x.c * 2 ^ (16 - x.n)) : Tog (zs ++ [(x.n : Int)]) (xs ++ [x]) := by
  refine ⟨by simp [h.len], fun i hi => ?_⟩
  rw [List.length_append, List.length_cons, List.length_nil] at hi
  by_cases hil : i < zs.length
  · have := h.one i hil
    have e1 : (zs ++ [(x.n : Int)]).getD i 0 = zs.getD i 0 := by simp only [List.getD]; rw [List.getElem?_append_left hil]
    have e2 : (xs ++ [x]).getD i default = xs.getD i default := by simp only [List.getD]; rw [List.getElem?_append_left (by rw [← h.len]; exact hil)]
    have e3 : (zs ++ [(x.n : Int)]).take i = zs.take i := List.take_append_of_le_length (by omega)
    rw [e1, e2, e3]; exact this
  · have he : i = zs.length := by omega
    subst he
    have e1 : (zs ++ [(x.n : Int)]).getD zs.length 0 = x.n := by simp [List.getD]
    have e2 : (xs ++ [x]).getD zs.length default = x := by rw [h.len]; simp [List.getD]
    have e3 : (zs ++ [(x.n : Int)]).take zs.length = zs := by simp
    rw [e1, e2, e3]
    exact ⟨by omega, by omega, rfl, hs⟩
theorem tog_row (R : Nat → List Nat) (n : Nat) (hn : 1 ≤ n) (hn2 : n ≤ 16) (h : Tog (sizR R n) (seq R n)) (hs : Cn.sum (sizR R n) = sumR R n) : ∀ i, i ≤ (R n).length →
    Tog (sizR R n ++ List.replicate i (n : Int)) (seq R n ++ rowS R n i) ∧ Cn.sum (sizR R n ++ List.replicate i (n : Int)) = sumR R n + i * 2 ^ (16 - n) := by
  intro i
  induction i with
  | zero => intro _; simpa [rowS] using ⟨h, hs⟩
  | succ i ih =>
    intro hi
    obtain ⟨h1, h2⟩ := ih (by omega)
    have hp : Cn.part ((n : Nat) : Int) = 2 ^ (16 - n) := by have := Cn.part_eq (n : Int) ⟨by omega, by omega⟩; simpa using this
    rw [List.replicate_succ', ← List.append_assoc, rowS_succ, ← List.append_assoc]
    refine ⟨h1.snoc (it R n i) hn hn2 ?_, ?_⟩
    · rw [h2, ← fst_val R n hn2, ← Nat.add_mul]; rfl
    · rw [Cn.sum_snoc, h2, hp, Nat.add_mul, Nat.one_mul, Nat.add_assoc]
theorem tog_seq (R : Nat → List Nat) (h0 : R 0 = []) : ∀ m, m ≤ 17 → Tog (sizR R m) (seq R m) ∧ Cn.sum (sizR R m) = sumR R m := by
  intro m
  induction m with
  | zero => intro _; exact ⟨⟨rfl, fun i hi => by simp [sizR] at hi⟩, by simp [sizR, Cn.sum, sumR]⟩
  | succ m ih =>
    intro hm
    obtain ⟨h1, h2⟩ := ih (by omega)
    rw [sizR_succ, seq_succ]
    by_cases hm0 : m = 0
    · subst hm0
      rw [h0]
      refine ⟨by simpa [rowS] using h1, ?_⟩
      show _ = sumR R 0 + (R 0).length * _
      rw [h0]; simpa using h2
    · exact tog_row R m (by omega) (by omega) h1 h2 _ (Nat.le_refl _)
theorem sizR_sorted (R : Nat → List Nat) (m : Nat) : (sizR R m).Pairwise (· ≤ ·) ∧ ∀ x ∈ sizR R m, x < (m : Int) := by
  induction m with
  | zero => exact ⟨List.Pairwise.nil, fun x hx => by simp [sizR] at hx⟩
  | succ m ih =>
    rw [sizR_succ, List.pairwise_append]
    refine ⟨⟨ih.1, ?_, fun x hx y hy => ?_⟩, fun x hx => ?_⟩
    · exact List.pairwise_replicate.2 (.inr (Int.le_refl _))
    · have := ih.2 x hx
      rw [List.mem_replicate] at hy
      omega
    · rcases List.mem_append.1 hx with hx | hx
      · have := ih.2 x hx; omega
      · rw [List.mem_replicate] at hx; omega
/-- The document's codes are those of the rows. -/
theorem codes_seq (R : Nat → List Nat) (h : Good R) : Cn.codes (sizR R 17) = (seq R 17).map It.bits := by
  obtain ⟨h1, h2⟩ := tog_seq R h.r0 17 (Nat.le_refl _)
  have h3 := (sizR_sorted R 17).1
  refine codes_eq_of _ _ h1.len (fun i hi => ⟨(h1.one i hi).1, (h1.one i hi).2.1⟩) (fun i hi => ?_) (by rw [h2]; exact h.le) (fun i hi => (h1.one i hi).2.2)
  have hg : ∀ j (hj : j < (sizR R 17).length), (sizR R 17).getD j 0 = (sizR R 17)[j] := fun j hj => by simp [List.getD, List.getElem?_eq_getElem hj]
  rw [hg i (by omega), hg (i + 1) hi]
  exact List.pairwise_iff_getElem.1 h3 i (i + 1) (by omega) hi (Nat.lt_succ_self _)
end Bk
end Go.Proofs.YtpoilaappcjbeaaGreatDoor
end

section
namespace Go.Proofs.YtpoilaappcjbeaaGreatDoor
open Go.RowKit
theorem wpl_load {P : Program} {w : World} {ops : Array Oper} {rest : List Oper} {o : Oper} {a : Act} {Q : Exit → Act → World → Prop} (hg : o.guard = none) (ty : TypeId) (x : Operand) (hop : o.op = .load ty x)
    (ad : Addr) (hx : a.eval x = .pointer (some ad)) (u : Value) (hrun : (loadVar ty ad).run P w = .ok u w) (hK : wpList P ops Q rest (a.put o.dst u) w) : wpList P ops Q (o :: rest) a w := by
  refine wpList_plain hg fun K hK' => ?_
  unfold Oper.wp
  simp [execOp, hop, hx, Instr.loadAt, Instr.sureAddr, Sem.run_bind, hrun, Result.andThen]
  exact hK' _ _ hK
namespace Bk
/-- An array that is loaded out of a block's front. -/
theorem run_load_front {P : Program} (w : World) (g : Nat) (t ty : TypeId) (cs : Array Value) (fr : Nat × Nat) (xs : List Value) (d : TypeDesc) (hg : w.heap[g]? = some (.cells cs t fr)) (hxs : ∀ (j : Nat) (v : Value), xs[j]? = some v → cs[j]? = some v)
    (hu : P.underlying ty = some d) (hd : (match d with | .struct _ | .array _ _ => true | _ => false) = true) (hi : (P.info? ty).map (·.size) = some xs.length) :
    (loadVar ty ⟨g, 0, none⟩).run P w = .ok (.agg xs.toArray) w := by
  have hl : (loadCells ⟨g, 0, none⟩ xs.length).run P w = .ok xs.toArray w :=
    run_loadCells_list (P := P) w ⟨g, 0, none⟩ xs (fun j v hv => by
      rw [Addr.add_mid, cell_of_row w g _ cs t fr hg, Nat.zero_add]
      exact hxs j v hv)
  cases hq : P.info? ty with
  | none => simp [hq] at hi
  | some i =>
    have hs : i.size = xs.length := by simpa [hq] using hi
    have hagg : (isAgg ty).run P w = .ok true w := by
      unfold isAgg
      rw [Sem.run_bind, run_underlying hu w]
      cases d <;> simp_all
    simp [loadVar, Sem.run_bind, hagg, sizeOf, typeInfo, hq, hs, hl]
theorem wplIn_load {F : Fence} {n : Nat} {P : Program} {w : World} {ops : Array Oper} {rest : List Oper} {o : Oper} {a : Act} {Q : Exit → Act → World → Prop} (hg : o.guard = none) (ty : TypeId) (x : Operand) (hop : o.op = .load ty x)
    (ad : Addr) (hx : a.eval x = .pointer (some ad)) (u : Value) (hrun : (loadVar ty ad).run P w = .ok u w) (hK : wpListIn F n P ops Q rest (a.put o.dst u) w) : wpListIn F n P ops Q (o :: rest) a w := by
  refine wpListIn_plain hg fun K hK' => ?_
  unfold Oper.wpIn
  refine ⟨?_, ?_⟩
  · simp [Oper.about, hop]
  · rw [Oper.semAt_plain F _ _ (by rw [hop]; intro c hc'; cases hc')]
    simp [execOp, hop, hx, Instr.loadAt, Instr.sureAddr, Sem.run_bind, hrun, Result.andThen]
    exact hK' _ _ hK
theorem wplIn_store_row {F : Fence} {n : Nat} {P : Program} {w : World} {ops : Array Oper} {rest : List Oper} {o : Oper} {a : Act} {Q : Exit → Act → World → Prop} (hgd : o.guard = none) (ty : TypeId) (x y : Operand) (ho : o.op = .store ty x y)
    (g : Nat) (cells : Array Value) (hx : a.eval x = .pointer (some ⟨g, 0, none⟩)) (hy : a.eval y = .agg cells)
    (t : TypeId) (old : Array Value) (hg : w.heap[g]? = some (.cells old t (0, 0))) (hi : (P.info? ty).map (·.size) = some cells.size)
    (hold : old.size = cells.size) (h1 : cells.all (·.oneCell') = true)
    (hK : wpListIn F n P ops Q rest (a.put o.dst undef) (w.setRow g cells)) : wpListIn F n P ops Q (o :: rest) a w := by
  refine wpListIn_plain hgd fun K hK' => ?_
  unfold Oper.wpIn
  refine ⟨?_, ?_⟩
  · simp [Oper.about, ho]
  · rw [Oper.semAt_plain F _ _ (by rw [ho]; intro c hc'; cases hc')]
    simp only [execOp, ho, hx, hy, Instr.storeAt, Instr.sureAddr, Sem.run_bind, Sem.run_pure, Result.andThen_ok, run_storeVar_row w g t ty old cells hg hi hold h1]
    exact hK' _ _ hK
end Bk
end Go.Proofs.YtpoilaappcjbeaaGreatDoor
end

section
namespace Go.Proofs.YtpoilaappcjbeaaGreatDoor
open Go.RowKit

namespace Bk
def sy (l : List Nat) : List Int := l.map fun (s : Nat) => (s : Int)
theorem sy_length (l : List Nat) : (sy l).length = l.length := by simp [sy]
theorem sy_getD (l : List Nat) (i : Nat) : (sy l).getD i 0 = ((l.getD i 0 : Nat) : Int) := by
  by_cases h : i < l.length
  · simp [sy, List.getD, List.getElem?_eq_getElem h]
  · simp [sy, List.getD, List.getElem?_eq_none (Nat.le_of_not_lt h)]
theorem sy_append (l m : List Nat) : sy (l ++ m) = sy l ++ sy m := by simp [sy]
/-- The cells of the sequences. -/
def sqs (fs : Nat → Int) (vs : Nat → Value) (m : Nat) : List Value := (List.range m).flatMap fun n => [.int .i64 (fs n), vs n]
theorem sqs_length (fs : Nat → Int) (vs : Nat → Value) (m : Nat) : (sqs fs vs m).length = 2 * m := by
  induction m with
  | zero => rfl
  | succ m ih => simp only [sqs, List.range_succ, List.flatMap_append, List.length_append] at *; rw [ih]; simp; omega
theorem sqs_succ (fs : Nat → Int) (vs : Nat → Value) (m : Nat) : sqs fs vs (m + 1) = sqs fs vs m ++ [.int .i64 (fs m), vs m] := by simp [sqs, List.range_succ]
theorem sqs_get (fs : Nat → Int) (vs : Nat → Value) (m n : Nat) (h : n < m) : (sqs fs vs m)[2 * n]? = some (.int .i64 (fs n)) ∧ (sqs fs vs m)[2 * n + 1]? = some (vs n) := by
  induction m with
  | zero => omega
  | succ m ih =>
    rw [sqs_succ]
    by_cases hm : n < m
    · rw [List.getElem?_append_left (by rw [sqs_length]; omega), List.getElem?_append_left (by rw [sqs_length]; omega)]
      exact ih hm
    · obtain rfl : n = m := by omega
      rw [List.getElem?_append_right (by rw [sqs_length]; omega), List.getElem?_append_right (by rw [sqs_length]; omega), sqs_length]
      constructor
      · rw [show 2 * n - 2 * n = 0 by omega]; rfl
      · rw [show 2 * n + 1 - 2 * n = 1 by omega]; rfl
def bkCells (fs : Nat → Int) (vs : Nat → Value) (wv : Value) (e : Int) : Array Value := (sqs fs vs 17 ++ [wv, .int .i64 e]).toArray
/-- The rows of symbols. -/
def Rows (w : World) (B : Nat) (vs : Nat → Value) (R : Nat → List Nat) : Prop := ∀ n, n < 17 → w.ownsRow B 3 1 (vs n) (R n).length (ivs (sy (R n)))
def Tr (vs : Nat → Value) (k : Nat) : Prop := ∃ n, n < 17 ∧ (vs n).ownBlock = some k
theorem Rows.kept {U : Nat → Prop} {w w' : World} {B : Nat} {vs : Nat → Value} {R : Nat → List Nat} (h : Rows w B vs R) (c : Kc U w w') (hn : ∀ k, Tr vs k → ¬ U k) : Rows w' B vs R := fun n hl => own_kc (h n hl) c (fun g hg => hn g ⟨n, hl, hg⟩)
theorem Rows.mono {w w' : World} {B : Nat} {vs : Nat → Value} {R : Nat → List Nat} (h : Rows w B vs R) (hb : Below w.heap.size w w') : Rows w' B vs R := fun n hl => own_below (h n hl) hb
theorem sqs_front (fs : Nat → Int) (vs : Nat → Value) (wv : Value) (e : Int) : ∀ (j : Nat) (v : Value), (sqs fs vs 17)[j]? = some v → (bkCells fs vs wv e)[j]? = some v := by
  intro j v h
  have hj : j < (sqs fs vs 17).length := (List.getElem?_eq_some_iff.1 h).1
  show ((sqs fs vs 17 ++ [wv, .int .i64 e]).toArray)[j]? = some v
  rw [List.getElem?_toArray, List.getElem?_append_left hj]; exact h
theorem load_sqs (w : World) (g : Nat) (fs : Nat → Int) (vs : Nat → Value) (wv : Value) (e : Int) (hg : w.heap[g]? = some (.cells (bkCells fs vs wv e) 170 (0, 0))) :
    (loadVar 167 ⟨g, 0, none⟩).run Tryz.prog w = .ok (.agg (sqs fs vs 17).toArray) w :=
  run_load_front w g _ _ _ _ _ _ hg (sqs_front fs vs wv e) Tryz.underlying167 rfl (by rw [sqs_length]; kernel_rfl)
theorem idx_sqs (w : World) (fs : Nat → Int) (vs : Nat → Value) (n : Nat) (hn : n < 17) : (Instr.index 167 (.agg (sqs fs vs 17).toArray) (.int .i64 (n : Nat))).run Tryz.prog w = .ok (.agg #[.int .i64 (fs n), vs n]) w := by
  obtain ⟨h1, h2⟩ := sqs_get fs vs 17 n hn
  have hx : List.take 2 (List.drop (n * 2) (sqs fs vs 17)) = [.int .i64 (fs n), vs n] := by
    apply List.ext_getElem?
    intro i
    rw [List.getElem?_take, List.getElem?_drop]
    match i with
    | 0 => rw [if_pos (by omega), show n * 2 + 0 = 2 * n by omega, h1]; rfl
    | 1 => rw [if_pos (by omega), show n * 2 + 1 = 2 * n + 1 by omega, h2]; rfl
    | i + 2 => rw [if_neg (by omega)]; rfl
  have hu := run_underlying Tryz.underlying167 w
  have hlt : (0 : Int) ≤ (n : Int) ∧ (n : Int) < ((17 : Nat) : Int) := by omega
  unfold Instr.index
  simp [go_sem]
  rw [if_pos hn, hx]
end Bk
end Go.Proofs.YtpoilaappcjbeaaGreatDoor
end
