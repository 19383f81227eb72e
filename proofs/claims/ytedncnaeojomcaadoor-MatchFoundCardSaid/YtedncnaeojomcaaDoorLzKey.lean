/- The map of a forest: what it holds by three bytes. -/
import Derived.Test.YtedncnaeojomcaaDoorProg
import Derived.Test.YtedncnaeojomcaaDoorBase
import Derived.Maps.OwnSet
import Derived.DeepKeys4
namespace Go.Proofs.YtedncnaeojomcaaDoor
open Go.RowKit Go.Maps

theorem laid_all : laidOutB Tryd.prog = true := by kernel_rfl
theorem key_row : (46 : TypeId) < Tryd.prog.types.size := of_decide_eq_true (by kernel_rfl)
theorem key_wide : (match Tryd.prog.underlying 46 with | some (.array _ _) | some (.struct _) => true | _ => false) = true := by rw [Tryd.underlying46]
set_option maxRecDepth 100000 in
theorem key_law : Keyed Tryd.prog 46 := Keyed.of_law (deep_law_laid laid_all (m := 2) (by omega) key_row (by kernel_rfl) key_wide)
/-- A key as it lies. -/
def kv (k : Nat × Nat × Nat) : Value := .agg #[.int .u8 (k.1 : Int), .int .u8 (k.2.1 : Int), .int .u8 (k.2.2 : Int)]
/-- What it reads as. -/
def kl (k : Nat × Nat × Nat) : Lit := .string (keyBytes [.int .u8 (k.1 : Int), .int .u8 (k.2.1 : Int), .int .u8 (k.2.2 : Int)])
def K8 (k : Nat × Nat × Nat) : Prop := k.1 < 256 ∧ k.2.1 < 256 ∧ k.2.2 < 256
theorem key_is (k : Nat × Nat × Nat) (h : K8 k) : keyOf Tryd.prog 46 (kv k) = some (kl k) := by
  obtain ⟨x, y, z⟩ := k
  obtain ⟨hx, hy, hz⟩ := h
  dsimp only at hx hy hz
  have hf : (Value.agg #[.int .u8 (x : Int), .int .u8 (y : Int), .int .u8 (z : Int)]).formed Tryd.prog 46 = true := by
    simp [Value.formed, Tryd.underlying46, show Tryd.prog.cellsOf 46 = 3 by kernel_rfl]
  have hk : Tryd.prog.keyType 46 = true := by kernel_rfl
  obtain ⟨d, hd⟩ : ∃ d, Tryd.prog.types.size + 1 = d + 2 := ⟨Tryd.prog.types.size - 1, by have h0 : (46 : Nat) < Tryd.prog.types.size := key_row; omega⟩
  have w1 : ∀ n : Nat, n < 256 → (Lit.int .u8 (n : Int)).wf = true := fun n hn => by simp [Lit.wf, IntKind.min, IntKind.max, IntKind.signed, IntKind.bits]; omega
  have hl : Tryd.prog.keyLits (Tryd.prog.types.size + 1) 46 [.int .u8 (x : Int), .int .u8 (y : Int), .int .u8 (z : Int)] = some [.int .u8 (x : Int), .int .u8 (y : Int), .int .u8 (z : Int)] := by
    rw [hd]
    simp [Program.keyLits, Tryd.underlying46, Tryd.underlying5, show Tryd.prog.cellsOf 46 = 3 by kernel_rfl, show Tryd.prog.cellsOf 5 = 1 by kernel_rfl, List.range_succ, w1 x hx, w1 y hy, w1 z hz]
  have hc : (kv (x, y, z)).cells.toList = [.int .u8 (x : Int), .int .u8 (y : Int), .int .u8 (z : Int)] := rfl
  have hf2 : (kv (x, y, z)).formed Tryd.prog 46 = true := hf
  unfold keyOf
  rw [Tryd.underlying46]
  dsimp only
  rw [hk, hf2, hc, hl]
  rfl
theorem key_ne {k k' : Nat × Nat × Nat} (h : K8 k) (h' : K8 k') (hne : k ≠ k') : kl k ≠ kl k' := fun e => hne (by
  have h1 := key_is k h
  have h2 := key_is k' h'
  rw [e] at h1
  have h3 := key_law.inj h1 h2
  obtain ⟨x, y, z⟩ := k
  obtain ⟨x', y', z'⟩ := k'
  simp only [kv, Value.agg.injEq, Array.mk.injEq, List.cons.injEq, Value.int.injEq, true_and, and_true] at h3
  simp only [Prod.mk.injEq]
  omega)
theorem key_lit (k : Nat × Nat × Nat) (h : K8 k) : WideAt.IsKeyLit (kl k) := trivial
/-- The block b is a map of at most n entries: what it holds by three bytes, or what stands for nothing. -/
def Tops (e : TypeId) (q : IntKind) (w : World) (b n : Nat) (no : Int) (top : Nat × Nat × Nat → Int) : Prop :=
  ∃ D : DataW Unit, w.ownsMap Tryd.prog 46 (plainElem Tryd.prog e) b n D ∧ ∀ k, K8 k → (Maps.has D (kl k) = true → D.atKey (kl k) (.lit (.int q 0)) = .lit (.int q (top k))) ∧ (Maps.has D (kl k) = false → top k = no)
end Go.Proofs.YtedncnaeojomcaaDoor
