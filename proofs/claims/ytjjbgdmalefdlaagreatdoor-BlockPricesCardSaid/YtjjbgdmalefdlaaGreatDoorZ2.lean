/- How a law's arguments are opened. -/
import Derived.Test.YtjjbgdmalefdlaaGreatDoorZ1
import Derived.ProofKit
import Derived.OpenShut
import Derived.ShutString
import Derived.ChangeOld
import Derived.Below
import Derived.SizedLaws
set_option linter.unusedSimpArgs false
set_option linter.unusedVariables false
section
namespace Go.Proofs.YtjjbgdmalefdlaaGreatDoor
open Go.ChangeShapes Go.WideShapes Go.ChangeAt Go.RowKit

/-- A slice of numbers that reads as l. -/
structure Is (k : IntKind) (w : World) (a : Option Addr) (len cap : Nat) (l : List Int) : Prop where
  hlen : l.length = len
  hle : len ≤ cap
  hnil : a = none → cap = 0
  at' : ∀ i, i < len → ∃ b off, a = some ⟨b, off, none⟩ ∧ b < w.heap.size ∧ w.cell? ⟨b, off + i, none⟩ = some (.int k (l.getD i 0))
  wf : ∀ n ∈ l, (Lit.int k n).wf = true

section
variable {H : Type} {enc : TypeId × Value → H} {P : Program} {W : World}
theorem open_is {k : IntKind} {t e : TypeId} {by' : Nat} (ht : P.underlying t = some (.slice e)) (he : P.underlying e = some (.int k)) (hce : P.cellsOf e = 1) (hby : P.bytesOf e = by')
    {a : Option Addr} {len cap : Nat} {d : DataW H} {p : List MemPlace} (h : DataW.Trod enc P W 0 (fun _ => true) true t (.slice a len cap) d p)
    {ts : List TypeId} {ds : List (DataW H)} (hsz : (DataW.weightsEach P ts ds).all (· ≤ reachBytes) = true) (j : Nat) (htj : ts[j]? = some t) (hdj : ds[j]? = some d) :
    ∃ l, Is k W a len cap l ∧ cap * by' ≤ 140737488351232 := by
  obtain ⟨fuel, hf⟩ := h
  rcases open_ints ht he hce hf with ⟨hcs, _⟩ | ⟨x, l, c, zs, hcs, _, hl, hm, hz, hx, hcell, hwz⟩
  · simp [Value.cells] at hcs
    obtain ⟨rfl, rfl, rfl⟩ := hcs
    exact ⟨[], ⟨rfl, Nat.le_refl _, fun _ => rfl, fun i hi => absurd hi (by omega), fun n hn => by simp at hn⟩, by omega⟩
  · simp [Value.cells] at hcs
    obtain ⟨rfl, rfl, rfl⟩ := hcs
    simp only [if_true] at hz
    simp only [Prod.mk.injEq] at hx
    obtain ⟨rfl, _⟩ := hx
    have hreach : cap * by' ≤ 140737488351232 := by
      have := sized_slice hsz htj hdj ht
      rw [hby] at this
      simp only [lits, List.length_map, List.length_take, List.length_drop, reachBytes] at this
      have e1 : min len zs.length + (zs.length - len) = cap := by omega
      rw [e1] at this
      omega
    refine ⟨zs.take len, ⟨by simp; omega, hl, fun h => by simp at h, fun i hi => ?_, fun n hn => hwz n (List.mem_of_mem_take hn)⟩, hreach⟩
    obtain ⟨b, off, rfl, hc⟩ := ints_at hcell (by omega)
    have hci := hc i (by omega)
    have hb := block_lt_of_cell hci
    refine ⟨b, off, rfl, hb, ?_⟩
    rw [hci]
    simp [List.getD, List.getElem?_take, hi]
theorem open_bs {t e : TypeId} (ht : P.underlying t = some (.slice e)) (he : P.underlying e = some (.int .u8)) (hce : P.cellsOf e = 1) (hby : P.bytesOf e = 1)
    {a : Option Addr} {len cap : Nat} {d : DataW H} {p : List MemPlace} (h : DataW.Trod enc P W 0 (fun _ => true) true t (.slice a len cap) d p)
    {ts : List TypeId} {ds : List (DataW H)} (hsz : (DataW.weightsEach P ts ds).all (· ≤ reachBytes) = true) (j : Nat) (htj : ts[j]? = some t) (hdj : ds[j]? = some d) :
    ∃ l, Bs W a len cap l ∧ cap ≤ 140737488351232 := by
  obtain ⟨zs, hz, hc⟩ := open_is ht he hce hby h hsz j htj hdj
  refine ⟨zs.map fun n => UInt8.ofNat n.toNat, ⟨by simpa using hz.hlen, hz.hle, by have := hz.hle; omega, by omega, hz.hnil, fun i hi => ?_⟩, by omega⟩
  obtain ⟨b, off, e, hb, hcell⟩ := hz.at' i hi
  refine ⟨b, off, e, hb, ?_⟩
  rw [hcell]
  have hil : i < zs.length := by rw [hz.hlen]; exact hi
  have hw := hz.wf zs[i] (List.getElem_mem hil)
  have hr : 0 ≤ zs[i] ∧ zs[i] ≤ 255 := by simpa [Lit.wf, IntKind.min, IntKind.max, IntKind.signed, IntKind.bits] using hw
  simp [gb, List.getD, List.getElem?_eq_getElem hil]
  omega
end
end Go.Proofs.YtjjbgdmalefdlaaGreatDoor
end
