/- Package bits: what a writer and a reader are in memory. The type of a slice of bytes. Package bits: the small functions' contracts. (*Writer).High: its contract. NewWriter: its contract. bits: order.fill. slices.Clone over bytes: its contract. burnishnum.Num: its contract. burnishnum.Is: its contract. -/
import Derived.Test.YtjjbgdmalefdlaaGreatDoorZ1
import Derived.Test.YtjjbgdmalefdlaaGreatDoorZ4
import Derived.Test.YtjjbgdmalefdlaaGreatDoorZ9
import Derived.Test.YtjjbgdmalefdlaaGreatDoorProg
import Derived.WalkSpells
import Derived.Lib.SliceRun
set_option linter.unusedSimpArgs false
set_option linter.unusedVariables false
section
namespace Go.Proofs.YtjjbgdmalefdlaaGreatDoor
open Go.RowKit

/-- A writer: its block, and its bytes. -/
structure Wr (w : World) (B g : Nat) (h : Bool) (v : Value) (l : List Bool) : Prop where
  blk : w.heap[g]? = some (.cells #[.bool h, v, .int .i64 (l.length : Nat)] 73 (0, 0))
  own : w.ownsRow B 5 1 v ((l.length + 7) / 8) (bvs (Bt.packs h false l))
  hg : B ≤ g
  ne : v.ownBlock ≠ some g
/-- What a writer's call may change. -/
def Wt (g : Nat) (v : Value) (k : Nat) : Prop := k = g ∨ v.ownBlock = some k
theorem Wr.lt {w : World} {B g : Nat} {h : Bool} {v : Value} {l : List Bool} (H : Wr w B g h v l) : g < w.heap.size := (Array.getElem?_eq_some_iff.1 H.blk).1
theorem Wr.kept {w w' : World} {T : Nat → Prop} {B g : Nat} {h : Bool} {v : Value} {l : List Bool} (H : Wr w B g h v l) (c : Ch w w' T) (h1 : ¬ T g) (h2 : ∀ k, v.ownBlock = some k → ¬ T k) : Wr w' B g h v l :=
  ⟨by rw [c.block g H.lt h1]; exact H.blk, c.own H.own h2, H.hg, H.ne⟩
theorem Wr.mono {w w' : World} {B g : Nat} {h : Bool} {v : Value} {l : List Bool} (H : Wr w B g h v l) (hb : Below w.heap.size w w') : Wr w' B g h v l :=
  H.kept (Ch.of_below (T := fun _ => False) hb) (fun h => h) (fun _ _ h => h)
theorem Wr.c0 {w : World} {B g : Nat} {h : Bool} {v : Value} {l : List Bool} (H : Wr w B g h v l) : w.cell? ⟨g, 0, none⟩ = some (.bool h) := by rw [cell_of_row _ _ _ _ _ (0, 0) H.blk]; rfl
theorem Wr.c1 {w : World} {B g : Nat} {h : Bool} {v : Value} {l : List Bool} (H : Wr w B g h v l) : w.cell? ⟨g, 1, none⟩ = some v := by rw [cell_of_row _ _ _ _ _ (0, 0) H.blk]; rfl
theorem Wr.c2 {w : World} {B g : Nat} {h : Bool} {v : Value} {l : List Bool} (H : Wr w B g h v l) : w.cell? ⟨g, 2, none⟩ = some (.int .i64 (l.length : Nat)) := by rw [cell_of_row _ _ _ _ _ (0, 0) H.blk]; rfl
theorem Wr.fr {w : World} {B g : Nat} {h : Bool} {v : Value} {l : List Bool} (H : Wr w B g h v l) (o : Nat) : w.frozen? ⟨g, o, none⟩ = false := frozen_of_row w g o _ _ H.blk

end Go.Proofs.YtjjbgdmalefdlaaGreatDoor
end

section
namespace Go.Proofs.YtjjbgdmalefdlaaGreatDoor
open Go.RowKit

theorem tyB : RowTy Tryz.prog 22 5 (.int .u8 0) 1 1 := ⟨Tryz.underlying22, by kernel_rfl, rfl, by omega⟩
end Go.Proofs.YtjjbgdmalefdlaaGreatDoor
end

section
namespace Go.Proofs.YtjjbgdmalefdlaaGreatDoor
open Go.RowKit

theorem isCount_yes (n : Nat) (w : World) (h2 : n ≤ 32) : Calls Tryz.prog 101 #[.int .i64 n] w fun e w' => e = .returned (.bool true) ∧ w = w' := by
  have d1 : decide ((0 : Int) ≤ n) = true := by simp
  have d2 : decide ((n : Int) ≤ 32) = true := by simp; omega
  go_enter Tryz.func101, Tryz.ntmps101
  go_wp2
  go_ret
  exact ⟨rfl, rfl⟩
theorem isCount_no (n : Int) (w : World) (h : n < 0 ∨ 32 < n) : Calls Tryz.prog 101 #[.int .i64 n] w fun e w' => e = .returned (.bool false) ∧ w = w' := by
  by_cases h1 : 0 ≤ n
  · have d1 : decide (0 ≤ n) = true := by simpa using h1
    have d2 : decide (n ≤ 32) = false := by simp; omega
    clear h
    go_enter Tryz.func101, Tryz.ntmps101
    go_wp2
    go_ret
    exact ⟨rfl, rfl⟩
  · have d1 : decide (0 ≤ n) = false := by simpa using h1
    clear h
    go_enter Tryz.func101, Tryz.ntmps101
    go_wp2
    go_ret
    exact ⟨rfl, rfl⟩

theorem missing_any (n : Nat) (w : World) (h : n ≤ 1000000000000) : Calls Tryz.prog 41 #[.int .i64 n] w fun e w' => e = .returned (.int .i64 ((8 - n % 8) % 8 : Nat)) ∧ w = w' := by
  go_enter Tryz.func41, Tryz.ntmps41
  go_wp2
  go_ret
  exact ⟨ret_int (i64_and_neg7 n (by omega)), rfl⟩

theorem shift_any (h : Bool) (size fro some : Nat) (w : World) (hs : fro + some ≤ size) (h32 : size ≤ 64) :
    Calls Tryz.prog 102 #[.agg #[.bool h], .int .i64 size, .int .i64 fro, .int .i64 some] w fun e w' => e = .returned (.int .i64 (Bt.shf h size fro some : Nat)) ∧ w' = w.alloc (.cells #[.bool h] 71) := by
  cases h
  · go_enter Tryz.func102, Tryz.ntmps102
    go_wp2
    go_ret
    exact ⟨ret_int (by simp [Bt.shf]), rfl⟩
  · go_enter Tryz.func102, Tryz.ntmps102
    go_wp2
    go_ret
    exact ⟨ret_int (by simp [Bt.shf]; omega), rfl⟩
end Go.Proofs.YtjjbgdmalefdlaaGreatDoor
end

section
namespace Go.Proofs.YtjjbgdmalefdlaaGreatDoor
open Go.RowKit

theorem high_any (w : World) (B g : Nat) (h : Bool) (v : Value) (l : List Bool) (H : Wr w B g h v l) :
    Calls Tryz.prog 33 #[.pointer (some ⟨g, 0, none⟩)] w fun e w' => e = .returned (.bool h) ∧ w = w' := by
  have c0 := H.c0
  clear H
  go_enter Tryz.func33, Tryz.ntmps33
  go_wp2
  go_ret
  exact ⟨rfl, rfl⟩
end Go.Proofs.YtjjbgdmalefdlaaGreatDoor
end

section
namespace Go.Proofs.YtjjbgdmalefdlaaGreatDoor
open Go.RowKit

theorem newWriter_any (h : Bool) (B : Nat) (w : World) (hB : B ≤ w.heap.size) :
    Calls Tryz.prog 9 #[.bool h] w fun e w' => e = .returned (.pointer (some ⟨w.heap.size, 0, none⟩)) ∧ Wr w' B w.heap.size h (.slice none 0 0) [] ∧ Below w.heap.size w w' := by
  go_enter Tryz.func9, Tryz.ntmps9
  go_wp2
  go_ret
  refine ⟨rfl, ⟨heap_alloc_last w _, World.ownsRow_nil _ _ _ _, hB, by simp [Value.ownBlock]⟩, below_alloc w _⟩
end Go.Proofs.YtjjbgdmalefdlaaGreatDoor
end

section
namespace Go.Proofs.YtjjbgdmalefdlaaGreatDoor
open Go.RowKit
theorem fill_any (h : Bool) (n : Nat) (w : World) (hn : n ≤ 7) :
    Calls Tryz.prog 40 #[.agg #[.bool h], .int .i64 n] w fun e w' => e = .returned (.int .i64 (if h then 2 ^ n - 1 else 0 : Nat)) ∧ w' = w.alloc (.cells #[.bool h] 71) := by
  cases h
  · go_enter Tryz.func40, Tryz.ntmps40
    go_wp2
    go_ret
    exact ⟨ret_int (by simp), rfl⟩
  · go_enter Tryz.func40, Tryz.ntmps40
    go_wp2
    go_ret
    exact ⟨ret_int (by exact Bt.mask_wrap n (by omega)), rfl⟩
end Go.Proofs.YtjjbgdmalefdlaaGreatDoor
end

section
namespace Go.Proofs.YtjjbgdmalefdlaaGreatDoor
open Go.RowKit

def ClonePost (w : World) (len : Nat) (l : List UInt8) (e : Ending) (w' : World) : Prop :=
  ∃ v, e = .returned v ∧ w'.ownsRow w.heap.size 5 1 v len (bvs l) ∧ Below w.heap.size w w'
theorem clone_any (a : Option Addr) (len cap : Nat) (l : List UInt8) (w : World) (H : Bs w a len cap l) (hr : len ≤ 140737488355328) :
    Calls Tryz.prog 39 #[.slice a len cap] w (ClonePost w len l) := by
  cases a with
  | none =>
    obtain ⟨rfl, rfl⟩ := H.nil0 rfl
    have hl : l = [] := List.eq_nil_of_length_eq_zero H.hlen
    subst hl
    clear H
    have hnil : ∀ w, (binOp .eql 22 (.slice none 0 0) (.slice none 0 0)).run Tryz.prog w = .ok (.bool true) w := fun w => Lib.run_eql_slice_nil w _ 5 none 0 0 0 0 Tryz.underlying22
    go_enter Tryz.func39, Tryz.ntmps39
    go_wp2
    go_ret
    exact ⟨_, rfl, World.ownsRow_nil _ _ _ _, Below.refl _ _⟩
  | some ad =>
    have own0 := Lib.hid (own_new w w.heap.size 5 #[] [] (Nat.le_refl _) (by simp) 0 rfl rfl)
    have hsrc := (H.mono (below_alloc w (.cells #[] 5))).src
    have hle := H.hcap
    clear H
    have hnil : ∀ w, (binOp .eql 22 (.slice (some ad) len cap) (.slice none 0 0)).run Tryz.prog w = .ok (.bool false) w := fun w => Lib.run_eql_slice_nil w _ 5 (some ad) len cap 0 0 Tryz.underlying22
    go_enter Tryz.func39, Tryz.ntmps39
    go_wp2_with (at_builtin; refine wpl_append tyB rfl _ _ rfl own0.out hsrc rfl rfl (by omega) (by omega) (by simp) ?_)
    intro v1 w1 own1 hg1 _
    have hb1 : Below w.heap.size w w1 := (below_alloc w _).grown hg1 (by simp) (fun k hk => (own0.out.lt k hk).1)
    have H1 := Lib.hid own1
    clear own1 hg1 hsrc own0
    go_wp2
    go_ret
    exact ⟨_, rfl, by simpa [bvs] using H1.out, hb1⟩

end Go.Proofs.YtjjbgdmalefdlaaGreatDoor
end

section
namespace Go.Proofs.YtjjbgdmalefdlaaGreatDoor
open Go.RowKit

theorem num_nil (w : World) : Calls Tryz.prog 50 #[.nilIface] w fun e w' => e = .returned (.int .i64 0) ∧ w = w' := by
  go_enter Tryz.func50, Tryz.ntmps50
  go_wp2
  go_ret
  exact ⟨rfl, rfl⟩
theorem num_err (n : Int) (h0 : (n == 0) = false) (w : World) : Calls Tryz.prog 50 #[.iface 51 (.int .i64 n)] w fun e w' => e = .returned (.int .i64 n) ∧ w = w' := by
  have hta : ∀ (x : Int) (w : World), (Instr.typeAssert (.iface 51 (.int .i64 x)) 32 51 true).run Tryz.prog w = .ok (.tuple #[.int .i64 x, .bool true]) w := fun _ _ => by kernel_rfl
  go_enter Tryz.func50, Tryz.ntmps50
  go_wp2
  go_ret
  exact ⟨rfl, rfl⟩
end Go.Proofs.YtjjbgdmalefdlaaGreatDoor
end

section
namespace Go.Proofs.YtjjbgdmalefdlaaGreatDoor
open Go.RowKit

theorem is_yes (n : Int) (h0 : (n == 0) = false) (w : World) : Calls Tryz.prog 21 #[.iface 51 (.int .i64 n), .int .i64 n] w fun e w' => e = .returned (.bool true) ∧ w = w' := by
  have H0 := Lib.hid h0
  clear h0
  go_enter Tryz.func21, Tryz.ntmps21
  go_wp2_with fail
  refine (num_err n H0.out _).mono ?_
  rintro e w' ⟨rfl, rfl⟩
  go_wp2
  go_ret
  exact ⟨by simp, rfl⟩
end Go.Proofs.YtjjbgdmalefdlaaGreatDoor
end
