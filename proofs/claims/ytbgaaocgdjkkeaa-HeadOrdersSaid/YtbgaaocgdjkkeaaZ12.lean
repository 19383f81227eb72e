/- head.known, fits: their contracts. -/
import Derived.Test.YtbgaaocgdjkkeaaZ11
set_option linter.unusedSimpArgs false
set_option linter.unusedVariables false
section
namespace Go.Proofs.Ytbgaaocgdjkkeaa
open Go.RowKit

namespace Hd
namespace Nm
def IH : List UInt8 := [73, 72, 68, 82]
def PL : List UInt8 := [80, 76, 84, 69]
def ID : List UInt8 := [73, 68, 65, 84]
def IE : List UInt8 := [73, 69, 78, 68]
def TR : List UInt8 := [116, 82, 78, 83]
def BK : List UInt8 := [98, 75, 71, 68]
def HI : List UInt8 := [104, 73, 83, 84]
def CH : List UInt8 := [99, 72, 82, 77]
def GA : List UInt8 := [103, 65, 77, 65]
def IC : List UInt8 := [105, 67, 67, 80]
def SB : List UInt8 := [115, 66, 73, 84]
def SR : List UInt8 := [115, 82, 71, 66]
def PH : List UInt8 := [112, 72, 89, 115]
def SP : List UInt8 := [115, 80, 76, 84]
def TI : List UInt8 := [116, 73, 77, 69]
end Nm
def knownP (nm : List UInt8) : Bool := nm == Nm.IH || nm == Nm.PL || nm == Nm.ID || nm == Nm.IE
/-- May a chunk of this name follow? -/
def fitsP (f : List UInt8 → Nat) (prev nm : List UInt8) : Bool :=
  if nm = Nm.IH then false
  else if nm = Nm.PL then nz f [Nm.PL, Nm.TR, Nm.BK, Nm.ID]
  else if nm = Nm.ID then (nz f [Nm.ID]) || prev == Nm.ID
  else if nm = Nm.CH ∨ nm = Nm.GA ∨ nm = Nm.IC ∨ nm = Nm.SB ∨ nm = Nm.SR then nz f [nm, Nm.PL, Nm.ID]
  else if nm = Nm.HI then (!(nz f [Nm.PL])) && (nz f [Nm.HI, Nm.ID])
  else if nm = Nm.TR ∨ nm = Nm.BK ∨ nm = Nm.PH then nz f [nm, Nm.ID]
  else if nm = Nm.SP then nz f [Nm.ID]
  else if nm = Nm.TI then nz f [Nm.TI]
  else true
theorem str_is (nm c : List UInt8) (b : Bool) (h : (nm == c) = b) : ((str nm).toList == c) = b := by rw [str_list]; exact h
theorem known_any (nm : List UInt8) (w : World) : Calls Try.prog 63 #[.string (str nm)] w fun e w' => e = .returned (.bool (knownP nm)) ∧ w = w' := by
  have HK : Hid (knownP nm = (nm == Nm.IH || nm == Nm.PL || nm == Nm.ID || nm == Nm.IE)) := Lib.hid rfl
  by_cases hIH : nm = Nm.IH
  · have hnm := hIH
    have eIH : ((str nm).toList == [73, 72, 68, 82]) = true := str_is nm [73, 72, 68, 82] true (by rw [hnm]; decide)
    have ePL : ((str nm).toList == [80, 76, 84, 69]) = false := str_is nm [80, 76, 84, 69] false (by rw [hnm]; decide)
    have eID : ((str nm).toList == [73, 68, 65, 84]) = false := str_is nm [73, 68, 65, 84] false (by rw [hnm]; decide)
    have eIE : ((str nm).toList == [73, 69, 78, 68]) = false := str_is nm [73, 69, 78, 68] false (by rw [hnm]; decide)
    have HR : Hid (knownP nm = true) := Lib.hid (by rw [HK.out, hnm]; rfl)
    clear HK hnm hIH
    go_enter Try.func63, Try.ntmps63
    go_wp2
    go_ret
    exact ⟨by rw [HR.out]; rfl, rfl⟩
  by_cases hPL : nm = Nm.PL
  · have hnm := hPL
    have eIH : ((str nm).toList == [73, 72, 68, 82]) = false := str_is nm [73, 72, 68, 82] false (by rw [hnm]; decide)
    have ePL : ((str nm).toList == [80, 76, 84, 69]) = true := str_is nm [80, 76, 84, 69] true (by rw [hnm]; decide)
    have eID : ((str nm).toList == [73, 68, 65, 84]) = false := str_is nm [73, 68, 65, 84] false (by rw [hnm]; decide)
    have eIE : ((str nm).toList == [73, 69, 78, 68]) = false := str_is nm [73, 69, 78, 68] false (by rw [hnm]; decide)
    have HR : Hid (knownP nm = true) := Lib.hid (by rw [HK.out, hnm]; rfl)
    clear HK hnm hIH hPL
    go_enter Try.func63, Try.ntmps63
    go_wp2
    go_ret
    exact ⟨by rw [HR.out]; rfl, rfl⟩
  by_cases hID : nm = Nm.ID
  · have hnm := hID
    have eIH : ((str nm).toList == [73, 72, 68, 82]) = false := str_is nm [73, 72, 68, 82] false (by rw [hnm]; decide)
    have ePL : ((str nm).toList == [80, 76, 84, 69]) = false := str_is nm [80, 76, 84, 69] false (by rw [hnm]; decide)
    have eID : ((str nm).toList == [73, 68, 65, 84]) = true := str_is nm [73, 68, 65, 84] true (by rw [hnm]; decide)
    have eIE : ((str nm).toList == [73, 69, 78, 68]) = false := str_is nm [73, 69, 78, 68] false (by rw [hnm]; decide)
    have HR : Hid (knownP nm = true) := Lib.hid (by rw [HK.out, hnm]; rfl)
    clear HK hnm hIH hPL hID
    go_enter Try.func63, Try.ntmps63
    go_wp2
    go_ret
    exact ⟨by rw [HR.out]; rfl, rfl⟩
  by_cases hIE : nm = Nm.IE
  · have hnm := hIE
    have eIH : ((str nm).toList == [73, 72, 68, 82]) = false := str_is nm [73, 72, 68, 82] false (by rw [hnm]; decide)
    have ePL : ((str nm).toList == [80, 76, 84, 69]) = false := str_is nm [80, 76, 84, 69] false (by rw [hnm]; decide)
    have eID : ((str nm).toList == [73, 68, 65, 84]) = false := str_is nm [73, 68, 65, 84] false (by rw [hnm]; decide)
    have eIE : ((str nm).toList == [73, 69, 78, 68]) = true := str_is nm [73, 69, 78, 68] true (by rw [hnm]; decide)
    have HR : Hid (knownP nm = true) := Lib.hid (by rw [HK.out, hnm]; rfl)
    clear HK hnm hIH hPL hID hIE
    go_enter Try.func63, Try.ntmps63
    go_wp2
    go_ret
    exact ⟨by rw [HR.out]; rfl, rfl⟩
  have eIH : ((str nm).toList == [73, 72, 68, 82]) = false := str_is nm [73, 72, 68, 82] false (by simpa [Nm.IH] using hIH)
  have ePL : ((str nm).toList == [80, 76, 84, 69]) = false := str_is nm [80, 76, 84, 69] false (by simpa [Nm.PL] using hPL)
  have eID : ((str nm).toList == [73, 68, 65, 84]) = false := str_is nm [73, 68, 65, 84] false (by simpa [Nm.ID] using hID)
  have eIE : ((str nm).toList == [73, 69, 78, 68]) = false := str_is nm [73, 69, 78, 68] false (by simpa [Nm.IE] using hIE)
  have HR : Hid (knownP nm = false) := Lib.hid (by rw [HK.out]; simp [hIH, hPL, hID, hIE])
  clear HK hIH hPL hID hIE
  go_enter Try.func63, Try.ntmps63
  go_wp2
  go_ret
  exact ⟨by rw [HR.out]; rfl, rfl⟩
set_option maxRecDepth 100000 in
set_option maxHeartbeats 8000000 in
theorem fits_any {w : World} {g mb n : Nat} {x : H} {f : List UInt8 → Nat} {prev : List UInt8} {ent : Nat} (h : Sq w g mb n x f prev ent) (nm : List UInt8) (hlen : nm.length ≤ 1000) :
    Calls Try.prog 64 #[.pointer (some ⟨g, 0, none⟩), .string (str nm)] w fun e w' => e = .returned (.bool (fitsP f prev nm)) ∧ Below w.heap.size w w' := by
  have H := Lib.hid h
  have HLN := Lib.hid hlen
  clear h hlen
  by_cases hIH : nm = Nm.IH
  · have hnm := hIH
    have eIH : ((str nm).toList == [73, 72, 68, 82]) = true := str_is nm [73, 72, 68, 82] true (by rw [hnm]; decide)
    have ePL : ((str nm).toList == [80, 76, 84, 69]) = false := str_is nm [80, 76, 84, 69] false (by rw [hnm]; decide)
    have eID : ((str nm).toList == [73, 68, 65, 84]) = false := str_is nm [73, 68, 65, 84] false (by rw [hnm]; decide)
    have eCH : ((str nm).toList == [99, 72, 82, 77]) = false := str_is nm [99, 72, 82, 77] false (by rw [hnm]; decide)
    have eGA : ((str nm).toList == [103, 65, 77, 65]) = false := str_is nm [103, 65, 77, 65] false (by rw [hnm]; decide)
    have eIC : ((str nm).toList == [105, 67, 67, 80]) = false := str_is nm [105, 67, 67, 80] false (by rw [hnm]; decide)
    have eSB : ((str nm).toList == [115, 66, 73, 84]) = false := str_is nm [115, 66, 73, 84] false (by rw [hnm]; decide)
    have eSR : ((str nm).toList == [115, 82, 71, 66]) = false := str_is nm [115, 82, 71, 66] false (by rw [hnm]; decide)
    have eHI : ((str nm).toList == [104, 73, 83, 84]) = false := str_is nm [104, 73, 83, 84] false (by rw [hnm]; decide)
    have eTR : ((str nm).toList == [116, 82, 78, 83]) = false := str_is nm [116, 82, 78, 83] false (by rw [hnm]; decide)
    have eBK : ((str nm).toList == [98, 75, 71, 68]) = false := str_is nm [98, 75, 71, 68] false (by rw [hnm]; decide)
    have ePH : ((str nm).toList == [112, 72, 89, 115]) = false := str_is nm [112, 72, 89, 115] false (by rw [hnm]; decide)
    have eSP : ((str nm).toList == [115, 80, 76, 84]) = false := str_is nm [115, 80, 76, 84] false (by rw [hnm]; decide)
    have eTI : ((str nm).toList == [116, 73, 77, 69]) = false := str_is nm [116, 73, 77, 69] false (by rw [hnm]; decide)
    have HR : Hid (fitsP f prev nm = false) := Lib.hid (by rw [hnm]; rfl)
    clear hnm hIH
    go_enter Try.func64, Try.ntmps64
    go_wp2
    go_ret
    exact ⟨by rw [HR.out]; rfl, Below.refl _ _⟩
  by_cases hPL : nm = Nm.PL
  · have hnm := hPL
    have eIH : ((str nm).toList == [73, 72, 68, 82]) = false := str_is nm [73, 72, 68, 82] false (by rw [hnm]; decide)
    have ePL : ((str nm).toList == [80, 76, 84, 69]) = true := str_is nm [80, 76, 84, 69] true (by rw [hnm]; decide)
    have eID : ((str nm).toList == [73, 68, 65, 84]) = false := str_is nm [73, 68, 65, 84] false (by rw [hnm]; decide)
    have eCH : ((str nm).toList == [99, 72, 82, 77]) = false := str_is nm [99, 72, 82, 77] false (by rw [hnm]; decide)
    have eGA : ((str nm).toList == [103, 65, 77, 65]) = false := str_is nm [103, 65, 77, 65] false (by rw [hnm]; decide)
    have eIC : ((str nm).toList == [105, 67, 67, 80]) = false := str_is nm [105, 67, 67, 80] false (by rw [hnm]; decide)
    have eSB : ((str nm).toList == [115, 66, 73, 84]) = false := str_is nm [115, 66, 73, 84] false (by rw [hnm]; decide)
    have eSR : ((str nm).toList == [115, 82, 71, 66]) = false := str_is nm [115, 82, 71, 66] false (by rw [hnm]; decide)
    have eHI : ((str nm).toList == [104, 73, 83, 84]) = false := str_is nm [104, 73, 83, 84] false (by rw [hnm]; decide)
    have eTR : ((str nm).toList == [116, 82, 78, 83]) = false := str_is nm [116, 82, 78, 83] false (by rw [hnm]; decide)
    have eBK : ((str nm).toList == [98, 75, 71, 68]) = false := str_is nm [98, 75, 71, 68] false (by rw [hnm]; decide)
    have ePH : ((str nm).toList == [112, 72, 89, 115]) = false := str_is nm [112, 72, 89, 115] false (by rw [hnm]; decide)
    have eSP : ((str nm).toList == [115, 80, 76, 84]) = false := str_is nm [115, 80, 76, 84] false (by rw [hnm]; decide)
    have eTI : ((str nm).toList == [116, 73, 77, 69]) = false := str_is nm [116, 73, 77, 69] false (by rw [hnm]; decide)
    have HR : Hid (fitsP f prev nm = nz f [Nm.PL, Nm.TR, Nm.BK, Nm.ID]) := Lib.hid (by rw [hnm]; rfl)
    clear hnm hIH hPL
    go_enter Try.func64, Try.ntmps64
    go_wp2_with fail
    have hba := below_alloc w (.cells (sts [Nm.PL, Nm.TR, Nm.BK, Nm.ID]) 9)
    have hra := heap_alloc_last w (.cells (sts [Nm.PL, Nm.TR, Nm.BK, Nm.ID]) 9)
    refine (none_any (H.out.below hba) [Nm.PL, Nm.TR, Nm.BK, Nm.ID] w.heap.size 4 rfl hra (fun k hk => by
      have hln := HLN.out
      match k, hk with
      | 0, _ => exact (by decide : (Nm.PL : List UInt8).length ≤ 1000)
      | 1, _ => exact (by decide : (Nm.TR : List UInt8).length ≤ 1000)
      | 2, _ => exact (by decide : (Nm.BK : List UInt8).length ≤ 1000)
      | 3, _ => exact (by decide : (Nm.ID : List UInt8).length ≤ 1000)) (by omega)).mono ?_
    rintro e wa ⟨rfl, rfl⟩
    have HBa := Lib.hid hba
    have Ha := Lib.hid (H.out.below hba)
    clear hba hra
    go_wp2
    go_ret
    exact ⟨by rw [HR.out]; rfl, HBa.out⟩
  by_cases hID : nm = Nm.ID
  · have hnm := hID
    have eIH : ((str nm).toList == [73, 72, 68, 82]) = false := str_is nm [73, 72, 68, 82] false (by rw [hnm]; decide)
    have ePL : ((str nm).toList == [80, 76, 84, 69]) = false := str_is nm [80, 76, 84, 69] false (by rw [hnm]; decide)
    have eID : ((str nm).toList == [73, 68, 65, 84]) = true := str_is nm [73, 68, 65, 84] true (by rw [hnm]; decide)
    have eCH : ((str nm).toList == [99, 72, 82, 77]) = false := str_is nm [99, 72, 82, 77] false (by rw [hnm]; decide)
    have eGA : ((str nm).toList == [103, 65, 77, 65]) = false := str_is nm [103, 65, 77, 65] false (by rw [hnm]; decide)
    have eIC : ((str nm).toList == [105, 67, 67, 80]) = false := str_is nm [105, 67, 67, 80] false (by rw [hnm]; decide)
    have eSB : ((str nm).toList == [115, 66, 73, 84]) = false := str_is nm [115, 66, 73, 84] false (by rw [hnm]; decide)
    have eSR : ((str nm).toList == [115, 82, 71, 66]) = false := str_is nm [115, 82, 71, 66] false (by rw [hnm]; decide)
    have eHI : ((str nm).toList == [104, 73, 83, 84]) = false := str_is nm [104, 73, 83, 84] false (by rw [hnm]; decide)
    have eTR : ((str nm).toList == [116, 82, 78, 83]) = false := str_is nm [116, 82, 78, 83] false (by rw [hnm]; decide)
    have eBK : ((str nm).toList == [98, 75, 71, 68]) = false := str_is nm [98, 75, 71, 68] false (by rw [hnm]; decide)
    have ePH : ((str nm).toList == [112, 72, 89, 115]) = false := str_is nm [112, 72, 89, 115] false (by rw [hnm]; decide)
    have eSP : ((str nm).toList == [115, 80, 76, 84]) = false := str_is nm [115, 80, 76, 84] false (by rw [hnm]; decide)
    have eTI : ((str nm).toList == [116, 73, 77, 69]) = false := str_is nm [116, 73, 77, 69] false (by rw [hnm]; decide)
    have HR : Hid (fitsP f prev nm = ((nz f [Nm.ID]) || prev == Nm.ID)) := Lib.hid (by rw [hnm]; rfl)
    clear hnm hIH hPL hID
    go_enter Try.func64, Try.ntmps64
    go_wp2_with fail
    have hba := below_alloc w (.cells (sts [Nm.ID]) 9)
    have hra := heap_alloc_last w (.cells (sts [Nm.ID]) 9)
    refine (none_any (H.out.below hba) [Nm.ID] w.heap.size 1 rfl hra (fun k hk => by
      have hln := HLN.out
      match k, hk with
      | 0, _ => exact (by decide : (Nm.ID : List UInt8).length ≤ 1000)) (by omega)).mono ?_
    rintro e wa ⟨rfl, rfl⟩
    have HBa := Lib.hid hba
    have Ha := Lib.hid (H.out.below hba)
    clear hba hra
    obtain ⟨_, _, _, c6, _⟩ := Ha.out.cells
    have hpv : ((str prev).toList == [73, 68, 65, 84]) = (prev == Nm.ID) := str_is prev _ _ rfl
    generalize (nz f [Nm.ID]) = b1 at *
    generalize (prev == Nm.ID) = b2 at *
    cases b1
    all_goals
      go_wp2
      go_ret
      exact ⟨by rw [HR.out]; rfl, HBa.out⟩
  by_cases hCH : nm = Nm.CH
  · have hnm := hCH
    have eIH : ((str nm).toList == [73, 72, 68, 82]) = false := str_is nm [73, 72, 68, 82] false (by rw [hnm]; decide)
    have ePL : ((str nm).toList == [80, 76, 84, 69]) = false := str_is nm [80, 76, 84, 69] false (by rw [hnm]; decide)
    have eID : ((str nm).toList == [73, 68, 65, 84]) = false := str_is nm [73, 68, 65, 84] false (by rw [hnm]; decide)
    have eCH : ((str nm).toList == [99, 72, 82, 77]) = true := str_is nm [99, 72, 82, 77] true (by rw [hnm]; decide)
    have eGA : ((str nm).toList == [103, 65, 77, 65]) = false := str_is nm [103, 65, 77, 65] false (by rw [hnm]; decide)
    have eIC : ((str nm).toList == [105, 67, 67, 80]) = false := str_is nm [105, 67, 67, 80] false (by rw [hnm]; decide)
    have eSB : ((str nm).toList == [115, 66, 73, 84]) = false := str_is nm [115, 66, 73, 84] false (by rw [hnm]; decide)
    have eSR : ((str nm).toList == [115, 82, 71, 66]) = false := str_is nm [115, 82, 71, 66] false (by rw [hnm]; decide)
    have eHI : ((str nm).toList == [104, 73, 83, 84]) = false := str_is nm [104, 73, 83, 84] false (by rw [hnm]; decide)
    have eTR : ((str nm).toList == [116, 82, 78, 83]) = false := str_is nm [116, 82, 78, 83] false (by rw [hnm]; decide)
    have eBK : ((str nm).toList == [98, 75, 71, 68]) = false := str_is nm [98, 75, 71, 68] false (by rw [hnm]; decide)
    have ePH : ((str nm).toList == [112, 72, 89, 115]) = false := str_is nm [112, 72, 89, 115] false (by rw [hnm]; decide)
    have eSP : ((str nm).toList == [115, 80, 76, 84]) = false := str_is nm [115, 80, 76, 84] false (by rw [hnm]; decide)
    have eTI : ((str nm).toList == [116, 73, 77, 69]) = false := str_is nm [116, 73, 77, 69] false (by rw [hnm]; decide)
    have HR : Hid (fitsP f prev nm = nz f [nm, Nm.PL, Nm.ID]) := Lib.hid (by have e9 := hnm; unfold fitsP; rw [if_neg hIH]; rw [if_neg hPL]; rw [if_neg hID]; rw [if_pos (by simp [e9])])
    clear hnm hIH hPL hID hCH
    go_enter Try.func64, Try.ntmps64
    go_wp2_with fail
    have hba := below_alloc w (.cells (sts [nm, Nm.PL, Nm.ID]) 9)
    have hra := heap_alloc_last w (.cells (sts [nm, Nm.PL, Nm.ID]) 9)
    refine (none_any (H.out.below hba) [nm, Nm.PL, Nm.ID] w.heap.size 3 rfl hra (fun k hk => by
      have hln := HLN.out
      match k, hk with
      | 0, _ => exact hln
      | 1, _ => exact (by decide : (Nm.PL : List UInt8).length ≤ 1000)
      | 2, _ => exact (by decide : (Nm.ID : List UInt8).length ≤ 1000)) (by omega)).mono ?_
    rintro e wa ⟨rfl, rfl⟩
    have HBa := Lib.hid hba
    have Ha := Lib.hid (H.out.below hba)
    clear hba hra
    go_wp2
    go_ret
    exact ⟨by rw [HR.out]; rfl, HBa.out⟩
  by_cases hGA : nm = Nm.GA
  · have hnm := hGA
    have eIH : ((str nm).toList == [73, 72, 68, 82]) = false := str_is nm [73, 72, 68, 82] false (by rw [hnm]; decide)
    have ePL : ((str nm).toList == [80, 76, 84, 69]) = false := str_is nm [80, 76, 84, 69] false (by rw [hnm]; decide)
    have eID : ((str nm).toList == [73, 68, 65, 84]) = false := str_is nm [73, 68, 65, 84] false (by rw [hnm]; decide)
    have eCH : ((str nm).toList == [99, 72, 82, 77]) = false := str_is nm [99, 72, 82, 77] false (by rw [hnm]; decide)
    have eGA : ((str nm).toList == [103, 65, 77, 65]) = true := str_is nm [103, 65, 77, 65] true (by rw [hnm]; decide)
    have eIC : ((str nm).toList == [105, 67, 67, 80]) = false := str_is nm [105, 67, 67, 80] false (by rw [hnm]; decide)
    have eSB : ((str nm).toList == [115, 66, 73, 84]) = false := str_is nm [115, 66, 73, 84] false (by rw [hnm]; decide)
    have eSR : ((str nm).toList == [115, 82, 71, 66]) = false := str_is nm [115, 82, 71, 66] false (by rw [hnm]; decide)
    have eHI : ((str nm).toList == [104, 73, 83, 84]) = false := str_is nm [104, 73, 83, 84] false (by rw [hnm]; decide)
    have eTR : ((str nm).toList == [116, 82, 78, 83]) = false := str_is nm [116, 82, 78, 83] false (by rw [hnm]; decide)
    have eBK : ((str nm).toList == [98, 75, 71, 68]) = false := str_is nm [98, 75, 71, 68] false (by rw [hnm]; decide)
    have ePH : ((str nm).toList == [112, 72, 89, 115]) = false := str_is nm [112, 72, 89, 115] false (by rw [hnm]; decide)
    have eSP : ((str nm).toList == [115, 80, 76, 84]) = false := str_is nm [115, 80, 76, 84] false (by rw [hnm]; decide)
    have eTI : ((str nm).toList == [116, 73, 77, 69]) = false := str_is nm [116, 73, 77, 69] false (by rw [hnm]; decide)
    have HR : Hid (fitsP f prev nm = nz f [nm, Nm.PL, Nm.ID]) := Lib.hid (by have e9 := hnm; unfold fitsP; rw [if_neg hIH]; rw [if_neg hPL]; rw [if_neg hID]; rw [if_pos (by simp [e9])])
    clear hnm hIH hPL hID hCH hGA
    go_enter Try.func64, Try.ntmps64
    go_wp2_with fail
    have hba := below_alloc w (.cells (sts [nm, Nm.PL, Nm.ID]) 9)
    have hra := heap_alloc_last w (.cells (sts [nm, Nm.PL, Nm.ID]) 9)
    refine (none_any (H.out.below hba) [nm, Nm.PL, Nm.ID] w.heap.size 3 rfl hra (fun k hk => by
      have hln := HLN.out
      match k, hk with
      | 0, _ => exact hln
      | 1, _ => exact (by decide : (Nm.PL : List UInt8).length ≤ 1000)
      | 2, _ => exact (by decide : (Nm.ID : List UInt8).length ≤ 1000)) (by omega)).mono ?_
    rintro e wa ⟨rfl, rfl⟩
    have HBa := Lib.hid hba
    have Ha := Lib.hid (H.out.below hba)
    clear hba hra
    go_wp2
    go_ret
    exact ⟨by rw [HR.out]; rfl, HBa.out⟩
  by_cases hIC : nm = Nm.IC
  · have hnm := hIC
    have eIH : ((str nm).toList == [73, 72, 68, 82]) = false := str_is nm [73, 72, 68, 82] false (by rw [hnm]; decide)
    have ePL : ((str nm).toList == [80, 76, 84, 69]) = false := str_is nm [80, 76, 84, 69] false (by rw [hnm]; decide)
    have eID : ((str nm).toList == [73, 68, 65, 84]) = false := str_is nm [73, 68, 65, 84] false (by rw [hnm]; decide)
    have eCH : ((str nm).toList == [99, 72, 82, 77]) = false := str_is nm [99, 72, 82, 77] false (by rw [hnm]; decide)
    have eGA : ((str nm).toList == [103, 65, 77, 65]) = false := str_is nm [103, 65, 77, 65] false (by rw [hnm]; decide)
    have eIC : ((str nm).toList == [105, 67, 67, 80]) = true := str_is nm [105, 67, 67, 80] true (by rw [hnm]; decide)
    have eSB : ((str nm).toList == [115, 66, 73, 84]) = false := str_is nm [115, 66, 73, 84] false (by rw [hnm]; decide)
    have eSR : ((str nm).toList == [115, 82, 71, 66]) = false := str_is nm [115, 82, 71, 66] false (by rw [hnm]; decide)
    have eHI : ((str nm).toList == [104, 73, 83, 84]) = false := str_is nm [104, 73, 83, 84] false (by rw [hnm]; decide)
    have eTR : ((str nm).toList == [116, 82, 78, 83]) = false := str_is nm [116, 82, 78, 83] false (by rw [hnm]; decide)
    have eBK : ((str nm).toList == [98, 75, 71, 68]) = false := str_is nm [98, 75, 71, 68] false (by rw [hnm]; decide)
    have ePH : ((str nm).toList == [112, 72, 89, 115]) = false := str_is nm [112, 72, 89, 115] false (by rw [hnm]; decide)
    have eSP : ((str nm).toList == [115, 80, 76, 84]) = false := str_is nm [115, 80, 76, 84] false (by rw [hnm]; decide)
    have eTI : ((str nm).toList == [116, 73, 77, 69]) = false := str_is nm [116, 73, 77, 69] false (by rw [hnm]; decide)
    have HR : Hid (fitsP f prev nm = nz f [nm, Nm.PL, Nm.ID]) := Lib.hid (by have e9 := hnm; unfold fitsP; rw [if_neg hIH]; rw [if_neg hPL]; rw [if_neg hID]; rw [if_pos (by simp [e9])])
    clear hnm hIH hPL hID hCH hGA hIC
    go_enter Try.func64, Try.ntmps64
    go_wp2_with fail
    have hba := below_alloc w (.cells (sts [nm, Nm.PL, Nm.ID]) 9)
    have hra := heap_alloc_last w (.cells (sts [nm, Nm.PL, Nm.ID]) 9)
    refine (none_any (H.out.below hba) [nm, Nm.PL, Nm.ID] w.heap.size 3 rfl hra (fun k hk => by
      have hln := HLN.out
      match k, hk with
      | 0, _ => exact hln
      | 1, _ => exact (by decide : (Nm.PL : List UInt8).length ≤ 1000)
      | 2, _ => exact (by decide : (Nm.ID : List UInt8).length ≤ 1000)) (by omega)).mono ?_
    rintro e wa ⟨rfl, rfl⟩
    have HBa := Lib.hid hba
    have Ha := Lib.hid (H.out.below hba)
    clear hba hra
    go_wp2
    go_ret
    exact ⟨by rw [HR.out]; rfl, HBa.out⟩
  by_cases hSB : nm = Nm.SB
  · have hnm := hSB
    have eIH : ((str nm).toList == [73, 72, 68, 82]) = false := str_is nm [73, 72, 68, 82] false (by rw [hnm]; decide)
    have ePL : ((str nm).toList == [80, 76, 84, 69]) = false := str_is nm [80, 76, 84, 69] false (by rw [hnm]; decide)
    have eID : ((str nm).toList == [73, 68, 65, 84]) = false := str_is nm [73, 68, 65, 84] false (by rw [hnm]; decide)
    have eCH : ((str nm).toList == [99, 72, 82, 77]) = false := str_is nm [99, 72, 82, 77] false (by rw [hnm]; decide)
    have eGA : ((str nm).toList == [103, 65, 77, 65]) = false := str_is nm [103, 65, 77, 65] false (by rw [hnm]; decide)
    have eIC : ((str nm).toList == [105, 67, 67, 80]) = false := str_is nm [105, 67, 67, 80] false (by rw [hnm]; decide)
    have eSB : ((str nm).toList == [115, 66, 73, 84]) = true := str_is nm [115, 66, 73, 84] true (by rw [hnm]; decide)
    have eSR : ((str nm).toList == [115, 82, 71, 66]) = false := str_is nm [115, 82, 71, 66] false (by rw [hnm]; decide)
    have eHI : ((str nm).toList == [104, 73, 83, 84]) = false := str_is nm [104, 73, 83, 84] false (by rw [hnm]; decide)
    have eTR : ((str nm).toList == [116, 82, 78, 83]) = false := str_is nm [116, 82, 78, 83] false (by rw [hnm]; decide)
    have eBK : ((str nm).toList == [98, 75, 71, 68]) = false := str_is nm [98, 75, 71, 68] false (by rw [hnm]; decide)
    have ePH : ((str nm).toList == [112, 72, 89, 115]) = false := str_is nm [112, 72, 89, 115] false (by rw [hnm]; decide)
    have eSP : ((str nm).toList == [115, 80, 76, 84]) = false := str_is nm [115, 80, 76, 84] false (by rw [hnm]; decide)
    have eTI : ((str nm).toList == [116, 73, 77, 69]) = false := str_is nm [116, 73, 77, 69] false (by rw [hnm]; decide)
    have HR : Hid (fitsP f prev nm = nz f [nm, Nm.PL, Nm.ID]) := Lib.hid (by have e9 := hnm; unfold fitsP; rw [if_neg hIH]; rw [if_neg hPL]; rw [if_neg hID]; rw [if_pos (by simp [e9])])
    clear hnm hIH hPL hID hCH hGA hIC hSB
    go_enter Try.func64, Try.ntmps64
    go_wp2_with fail
    have hba := below_alloc w (.cells (sts [nm, Nm.PL, Nm.ID]) 9)
    have hra := heap_alloc_last w (.cells (sts [nm, Nm.PL, Nm.ID]) 9)
    refine (none_any (H.out.below hba) [nm, Nm.PL, Nm.ID] w.heap.size 3 rfl hra (fun k hk => by
      have hln := HLN.out
      match k, hk with
      | 0, _ => exact hln
      | 1, _ => exact (by decide : (Nm.PL : List UInt8).length ≤ 1000)
      | 2, _ => exact (by decide : (Nm.ID : List UInt8).length ≤ 1000)) (by omega)).mono ?_
    rintro e wa ⟨rfl, rfl⟩
    have HBa := Lib.hid hba
    have Ha := Lib.hid (H.out.below hba)
    clear hba hra
    go_wp2
    go_ret
    exact ⟨by rw [HR.out]; rfl, HBa.out⟩
  by_cases hSR : nm = Nm.SR
  · have hnm := hSR
    have eIH : ((str nm).toList == [73, 72, 68, 82]) = false := str_is nm [73, 72, 68, 82] false (by rw [hnm]; decide)
    have ePL : ((str nm).toList == [80, 76, 84, 69]) = false := str_is nm [80, 76, 84, 69] false (by rw [hnm]; decide)
    have eID : ((str nm).toList == [73, 68, 65, 84]) = false := str_is nm [73, 68, 65, 84] false (by rw [hnm]; decide)
    have eCH : ((str nm).toList == [99, 72, 82, 77]) = false := str_is nm [99, 72, 82, 77] false (by rw [hnm]; decide)
    have eGA : ((str nm).toList == [103, 65, 77, 65]) = false := str_is nm [103, 65, 77, 65] false (by rw [hnm]; decide)
    have eIC : ((str nm).toList == [105, 67, 67, 80]) = false := str_is nm [105, 67, 67, 80] false (by rw [hnm]; decide)
    have eSB : ((str nm).toList == [115, 66, 73, 84]) = false := str_is nm [115, 66, 73, 84] false (by rw [hnm]; decide)
    have eSR : ((str nm).toList == [115, 82, 71, 66]) = true := str_is nm [115, 82, 71, 66] true (by rw [hnm]; decide)
    have eHI : ((str nm).toList == [104, 73, 83, 84]) = false := str_is nm [104, 73, 83, 84] false (by rw [hnm]; decide)
    have eTR : ((str nm).toList == [116, 82, 78, 83]) = false := str_is nm [116, 82, 78, 83] false (by rw [hnm]; decide)
    have eBK : ((str nm).toList == [98, 75, 71, 68]) = false := str_is nm [98, 75, 71, 68] false (by rw [hnm]; decide)
    have ePH : ((str nm).toList == [112, 72, 89, 115]) = false := str_is nm [112, 72, 89, 115] false (by rw [hnm]; decide)
    have eSP : ((str nm).toList == [115, 80, 76, 84]) = false := str_is nm [115, 80, 76, 84] false (by rw [hnm]; decide)
    have eTI : ((str nm).toList == [116, 73, 77, 69]) = false := str_is nm [116, 73, 77, 69] false (by rw [hnm]; decide)
    have HR : Hid (fitsP f prev nm = nz f [nm, Nm.PL, Nm.ID]) := Lib.hid (by have e9 := hnm; unfold fitsP; rw [if_neg hIH]; rw [if_neg hPL]; rw [if_neg hID]; rw [if_pos (by simp [e9])])
    clear hnm hIH hPL hID hCH hGA hIC hSB hSR
    go_enter Try.func64, Try.ntmps64
    go_wp2_with fail
    have hba := below_alloc w (.cells (sts [nm, Nm.PL, Nm.ID]) 9)
    have hra := heap_alloc_last w (.cells (sts [nm, Nm.PL, Nm.ID]) 9)
    refine (none_any (H.out.below hba) [nm, Nm.PL, Nm.ID] w.heap.size 3 rfl hra (fun k hk => by
      have hln := HLN.out
      match k, hk with
      | 0, _ => exact hln
      | 1, _ => exact (by decide : (Nm.PL : List UInt8).length ≤ 1000)
      | 2, _ => exact (by decide : (Nm.ID : List UInt8).length ≤ 1000)) (by omega)).mono ?_
    rintro e wa ⟨rfl, rfl⟩
    have HBa := Lib.hid hba
    have Ha := Lib.hid (H.out.below hba)
    clear hba hra
    go_wp2
    go_ret
    exact ⟨by rw [HR.out]; rfl, HBa.out⟩
  have hF : ¬ (nm = Nm.CH ∨ nm = Nm.GA ∨ nm = Nm.IC ∨ nm = Nm.SB ∨ nm = Nm.SR) := by simp [hCH, hGA, hIC, hSB, hSR]
  by_cases hHI : nm = Nm.HI
  · have hnm := hHI
    have eIH : ((str nm).toList == [73, 72, 68, 82]) = false := str_is nm [73, 72, 68, 82] false (by rw [hnm]; decide)
    have ePL : ((str nm).toList == [80, 76, 84, 69]) = false := str_is nm [80, 76, 84, 69] false (by rw [hnm]; decide)
    have eID : ((str nm).toList == [73, 68, 65, 84]) = false := str_is nm [73, 68, 65, 84] false (by rw [hnm]; decide)
    have eCH : ((str nm).toList == [99, 72, 82, 77]) = false := str_is nm [99, 72, 82, 77] false (by rw [hnm]; decide)
    have eGA : ((str nm).toList == [103, 65, 77, 65]) = false := str_is nm [103, 65, 77, 65] false (by rw [hnm]; decide)
    have eIC : ((str nm).toList == [105, 67, 67, 80]) = false := str_is nm [105, 67, 67, 80] false (by rw [hnm]; decide)
    have eSB : ((str nm).toList == [115, 66, 73, 84]) = false := str_is nm [115, 66, 73, 84] false (by rw [hnm]; decide)
    have eSR : ((str nm).toList == [115, 82, 71, 66]) = false := str_is nm [115, 82, 71, 66] false (by rw [hnm]; decide)
    have eHI : ((str nm).toList == [104, 73, 83, 84]) = true := str_is nm [104, 73, 83, 84] true (by rw [hnm]; decide)
    have eTR : ((str nm).toList == [116, 82, 78, 83]) = false := str_is nm [116, 82, 78, 83] false (by rw [hnm]; decide)
    have eBK : ((str nm).toList == [98, 75, 71, 68]) = false := str_is nm [98, 75, 71, 68] false (by rw [hnm]; decide)
    have ePH : ((str nm).toList == [112, 72, 89, 115]) = false := str_is nm [112, 72, 89, 115] false (by rw [hnm]; decide)
    have eSP : ((str nm).toList == [115, 80, 76, 84]) = false := str_is nm [115, 80, 76, 84] false (by rw [hnm]; decide)
    have eTI : ((str nm).toList == [116, 73, 77, 69]) = false := str_is nm [116, 73, 77, 69] false (by rw [hnm]; decide)
    have HR : Hid (fitsP f prev nm = ((!(nz f [Nm.PL])) && (nz f [Nm.HI, Nm.ID]))) := Lib.hid (by rw [hnm]; rfl)
    clear hnm hIH hPL hID hCH hGA hIC hSB hSR hHI
    go_enter Try.func64, Try.ntmps64
    go_wp2_with fail
    have hba := below_alloc w (.cells (sts [Nm.PL]) 9)
    have hra := heap_alloc_last w (.cells (sts [Nm.PL]) 9)
    refine (none_any (H.out.below hba) [Nm.PL] w.heap.size 1 rfl hra (fun k hk => by
      have hln := HLN.out
      match k, hk with
      | 0, _ => exact (by decide : (Nm.PL : List UInt8).length ≤ 1000)) (by omega)).mono ?_
    rintro e wa ⟨rfl, rfl⟩
    have HBa := Lib.hid hba
    have Ha := Lib.hid (H.out.below hba)
    clear hba hra
    generalize (nz f [Nm.PL]) = b1 at *
    obtain ⟨wx, hwx⟩ : ∃ wx, (w.alloc (.cells (sts [Nm.PL]) 9)) = wx := ⟨_, rfl⟩
    have HBx : Hid (Below w.heap.size w wx) := hwx ▸ HBa
    have Hx : Hid (Sq wx g mb n x f prev ent) := hwx ▸ Ha
    clear HBa Ha
    have HLX := Lib.hid (fun (W : World) (hb : Below wx.heap.size wx W) => Hx.out.below hb)
    rw [hwx]
    clear hwx
    cases b1
    rotate_left
    · go_wp2
      go_ret
      exact ⟨by rw [HR.out]; rfl, HBx.out⟩
    · go_wp2_with fail
      have hbb := below_alloc wx (.cells (sts [Nm.HI, Nm.ID]) 9)
      have hrb := heap_alloc_last wx (.cells (sts [Nm.HI, Nm.ID]) 9)
      refine (none_any (Hx.out.below hbb) [Nm.HI, Nm.ID] wx.heap.size 2 rfl hrb (fun k hk => by
        have hln := HLN.out
        match k, hk with
        | 0, _ => exact (by decide : (Nm.HI : List UInt8).length ≤ 1000)
        | 1, _ => exact (by decide : (Nm.ID : List UInt8).length ≤ 1000)) (by omega)).mono ?_
      rintro e wb ⟨rfl, rfl⟩
      have HBb := Lib.hid hbb
      have Hb := Lib.hid (Hx.out.below hbb)
      clear hbb hrb
      go_wp2
      go_ret
      exact ⟨by rw [HR.out]; rfl, HBx.out.trans (HBb.out.mono HBx.out.size)⟩
  by_cases hTR : nm = Nm.TR
  · have hnm := hTR
    have eIH : ((str nm).toList == [73, 72, 68, 82]) = false := str_is nm [73, 72, 68, 82] false (by rw [hnm]; decide)
    have ePL : ((str nm).toList == [80, 76, 84, 69]) = false := str_is nm [80, 76, 84, 69] false (by rw [hnm]; decide)
    have eID : ((str nm).toList == [73, 68, 65, 84]) = false := str_is nm [73, 68, 65, 84] false (by rw [hnm]; decide)
    have eCH : ((str nm).toList == [99, 72, 82, 77]) = false := str_is nm [99, 72, 82, 77] false (by rw [hnm]; decide)
    have eGA : ((str nm).toList == [103, 65, 77, 65]) = false := str_is nm [103, 65, 77, 65] false (by rw [hnm]; decide)
    have eIC : ((str nm).toList == [105, 67, 67, 80]) = false := str_is nm [105, 67, 67, 80] false (by rw [hnm]; decide)
    have eSB : ((str nm).toList == [115, 66, 73, 84]) = false := str_is nm [115, 66, 73, 84] false (by rw [hnm]; decide)
    have eSR : ((str nm).toList == [115, 82, 71, 66]) = false := str_is nm [115, 82, 71, 66] false (by rw [hnm]; decide)
    have eHI : ((str nm).toList == [104, 73, 83, 84]) = false := str_is nm [104, 73, 83, 84] false (by rw [hnm]; decide)
    have eTR : ((str nm).toList == [116, 82, 78, 83]) = true := str_is nm [116, 82, 78, 83] true (by rw [hnm]; decide)
    have eBK : ((str nm).toList == [98, 75, 71, 68]) = false := str_is nm [98, 75, 71, 68] false (by rw [hnm]; decide)
    have ePH : ((str nm).toList == [112, 72, 89, 115]) = false := str_is nm [112, 72, 89, 115] false (by rw [hnm]; decide)
    have eSP : ((str nm).toList == [115, 80, 76, 84]) = false := str_is nm [115, 80, 76, 84] false (by rw [hnm]; decide)
    have eTI : ((str nm).toList == [116, 73, 77, 69]) = false := str_is nm [116, 73, 77, 69] false (by rw [hnm]; decide)
    have HR : Hid (fitsP f prev nm = nz f [nm, Nm.ID]) := Lib.hid (by have e9 := hnm; unfold fitsP; rw [if_neg hIH]; rw [if_neg hPL]; rw [if_neg hID]; rw [if_neg hF]; rw [if_neg hHI]; rw [if_pos (by simp [e9])])
    clear hnm hIH hPL hID hCH hGA hIC hSB hSR hHI hTR
    go_enter Try.func64, Try.ntmps64
    go_wp2_with fail
    have hba := below_alloc w (.cells (sts [nm, Nm.ID]) 9)
    have hra := heap_alloc_last w (.cells (sts [nm, Nm.ID]) 9)
    refine (none_any (H.out.below hba) [nm, Nm.ID] w.heap.size 2 rfl hra (fun k hk => by
      have hln := HLN.out
      match k, hk with
      | 0, _ => exact hln
      | 1, _ => exact (by decide : (Nm.ID : List UInt8).length ≤ 1000)) (by omega)).mono ?_
    rintro e wa ⟨rfl, rfl⟩
    have HBa := Lib.hid hba
    have Ha := Lib.hid (H.out.below hba)
    clear hba hra
    go_wp2
    go_ret
    exact ⟨by rw [HR.out]; rfl, HBa.out⟩
  by_cases hBK : nm = Nm.BK
  · have hnm := hBK
    have eIH : ((str nm).toList == [73, 72, 68, 82]) = false := str_is nm [73, 72, 68, 82] false (by rw [hnm]; decide)
    have ePL : ((str nm).toList == [80, 76, 84, 69]) = false := str_is nm [80, 76, 84, 69] false (by rw [hnm]; decide)
    have eID : ((str nm).toList == [73, 68, 65, 84]) = false := str_is nm [73, 68, 65, 84] false (by rw [hnm]; decide)
    have eCH : ((str nm).toList == [99, 72, 82, 77]) = false := str_is nm [99, 72, 82, 77] false (by rw [hnm]; decide)
    have eGA : ((str nm).toList == [103, 65, 77, 65]) = false := str_is nm [103, 65, 77, 65] false (by rw [hnm]; decide)
    have eIC : ((str nm).toList == [105, 67, 67, 80]) = false := str_is nm [105, 67, 67, 80] false (by rw [hnm]; decide)
    have eSB : ((str nm).toList == [115, 66, 73, 84]) = false := str_is nm [115, 66, 73, 84] false (by rw [hnm]; decide)
    have eSR : ((str nm).toList == [115, 82, 71, 66]) = false := str_is nm [115, 82, 71, 66] false (by rw [hnm]; decide)
    have eHI : ((str nm).toList == [104, 73, 83, 84]) = false := str_is nm [104, 73, 83, 84] false (by rw [hnm]; decide)
    have eTR : ((str nm).toList == [116, 82, 78, 83]) = false := str_is nm [116, 82, 78, 83] false (by rw [hnm]; decide)
    have eBK : ((str nm).toList == [98, 75, 71, 68]) = true := str_is nm [98, 75, 71, 68] true (by rw [hnm]; decide)
    have ePH : ((str nm).toList == [112, 72, 89, 115]) = false := str_is nm [112, 72, 89, 115] false (by rw [hnm]; decide)
    have eSP : ((str nm).toList == [115, 80, 76, 84]) = false := str_is nm [115, 80, 76, 84] false (by rw [hnm]; decide)
    have eTI : ((str nm).toList == [116, 73, 77, 69]) = false := str_is nm [116, 73, 77, 69] false (by rw [hnm]; decide)
    have HR : Hid (fitsP f prev nm = nz f [nm, Nm.ID]) := Lib.hid (by have e9 := hnm; unfold fitsP; rw [if_neg hIH]; rw [if_neg hPL]; rw [if_neg hID]; rw [if_neg hF]; rw [if_neg hHI]; rw [if_pos (by simp [e9])])
    clear hnm hIH hPL hID hCH hGA hIC hSB hSR hHI hTR hBK
    go_enter Try.func64, Try.ntmps64
    go_wp2_with fail
    have hba := below_alloc w (.cells (sts [nm, Nm.ID]) 9)
    have hra := heap_alloc_last w (.cells (sts [nm, Nm.ID]) 9)
    refine (none_any (H.out.below hba) [nm, Nm.ID] w.heap.size 2 rfl hra (fun k hk => by
      have hln := HLN.out
      match k, hk with
      | 0, _ => exact hln
      | 1, _ => exact (by decide : (Nm.ID : List UInt8).length ≤ 1000)) (by omega)).mono ?_
    rintro e wa ⟨rfl, rfl⟩
    have HBa := Lib.hid hba
    have Ha := Lib.hid (H.out.below hba)
    clear hba hra
    go_wp2
    go_ret
    exact ⟨by rw [HR.out]; rfl, HBa.out⟩
  by_cases hPH : nm = Nm.PH
  · have hnm := hPH
    have eIH : ((str nm).toList == [73, 72, 68, 82]) = false := str_is nm [73, 72, 68, 82] false (by rw [hnm]; decide)
    have ePL : ((str nm).toList == [80, 76, 84, 69]) = false := str_is nm [80, 76, 84, 69] false (by rw [hnm]; decide)
    have eID : ((str nm).toList == [73, 68, 65, 84]) = false := str_is nm [73, 68, 65, 84] false (by rw [hnm]; decide)
    have eCH : ((str nm).toList == [99, 72, 82, 77]) = false := str_is nm [99, 72, 82, 77] false (by rw [hnm]; decide)
    have eGA : ((str nm).toList == [103, 65, 77, 65]) = false := str_is nm [103, 65, 77, 65] false (by rw [hnm]; decide)
    have eIC : ((str nm).toList == [105, 67, 67, 80]) = false := str_is nm [105, 67, 67, 80] false (by rw [hnm]; decide)
    have eSB : ((str nm).toList == [115, 66, 73, 84]) = false := str_is nm [115, 66, 73, 84] false (by rw [hnm]; decide)
    have eSR : ((str nm).toList == [115, 82, 71, 66]) = false := str_is nm [115, 82, 71, 66] false (by rw [hnm]; decide)
    have eHI : ((str nm).toList == [104, 73, 83, 84]) = false := str_is nm [104, 73, 83, 84] false (by rw [hnm]; decide)
    have eTR : ((str nm).toList == [116, 82, 78, 83]) = false := str_is nm [116, 82, 78, 83] false (by rw [hnm]; decide)
    have eBK : ((str nm).toList == [98, 75, 71, 68]) = false := str_is nm [98, 75, 71, 68] false (by rw [hnm]; decide)
    have ePH : ((str nm).toList == [112, 72, 89, 115]) = true := str_is nm [112, 72, 89, 115] true (by rw [hnm]; decide)
    have eSP : ((str nm).toList == [115, 80, 76, 84]) = false := str_is nm [115, 80, 76, 84] false (by rw [hnm]; decide)
    have eTI : ((str nm).toList == [116, 73, 77, 69]) = false := str_is nm [116, 73, 77, 69] false (by rw [hnm]; decide)
    have HR : Hid (fitsP f prev nm = nz f [nm, Nm.ID]) := Lib.hid (by have e9 := hnm; unfold fitsP; rw [if_neg hIH]; rw [if_neg hPL]; rw [if_neg hID]; rw [if_neg hF]; rw [if_neg hHI]; rw [if_pos (by simp [e9])])
    clear hnm hIH hPL hID hCH hGA hIC hSB hSR hHI hTR hBK hPH
    go_enter Try.func64, Try.ntmps64
    go_wp2_with fail
    have hba := below_alloc w (.cells (sts [nm, Nm.ID]) 9)
    have hra := heap_alloc_last w (.cells (sts [nm, Nm.ID]) 9)
    refine (none_any (H.out.below hba) [nm, Nm.ID] w.heap.size 2 rfl hra (fun k hk => by
      have hln := HLN.out
      match k, hk with
      | 0, _ => exact hln
      | 1, _ => exact (by decide : (Nm.ID : List UInt8).length ≤ 1000)) (by omega)).mono ?_
    rintro e wa ⟨rfl, rfl⟩
    have HBa := Lib.hid hba
    have Ha := Lib.hid (H.out.below hba)
    clear hba hra
    go_wp2
    go_ret
    exact ⟨by rw [HR.out]; rfl, HBa.out⟩
  by_cases hSP : nm = Nm.SP
  · have hnm := hSP
    have eIH : ((str nm).toList == [73, 72, 68, 82]) = false := str_is nm [73, 72, 68, 82] false (by rw [hnm]; decide)
    have ePL : ((str nm).toList == [80, 76, 84, 69]) = false := str_is nm [80, 76, 84, 69] false (by rw [hnm]; decide)
    have eID : ((str nm).toList == [73, 68, 65, 84]) = false := str_is nm [73, 68, 65, 84] false (by rw [hnm]; decide)
    have eCH : ((str nm).toList == [99, 72, 82, 77]) = false := str_is nm [99, 72, 82, 77] false (by rw [hnm]; decide)
    have eGA : ((str nm).toList == [103, 65, 77, 65]) = false := str_is nm [103, 65, 77, 65] false (by rw [hnm]; decide)
    have eIC : ((str nm).toList == [105, 67, 67, 80]) = false := str_is nm [105, 67, 67, 80] false (by rw [hnm]; decide)
    have eSB : ((str nm).toList == [115, 66, 73, 84]) = false := str_is nm [115, 66, 73, 84] false (by rw [hnm]; decide)
    have eSR : ((str nm).toList == [115, 82, 71, 66]) = false := str_is nm [115, 82, 71, 66] false (by rw [hnm]; decide)
    have eHI : ((str nm).toList == [104, 73, 83, 84]) = false := str_is nm [104, 73, 83, 84] false (by rw [hnm]; decide)
    have eTR : ((str nm).toList == [116, 82, 78, 83]) = false := str_is nm [116, 82, 78, 83] false (by rw [hnm]; decide)
    have eBK : ((str nm).toList == [98, 75, 71, 68]) = false := str_is nm [98, 75, 71, 68] false (by rw [hnm]; decide)
    have ePH : ((str nm).toList == [112, 72, 89, 115]) = false := str_is nm [112, 72, 89, 115] false (by rw [hnm]; decide)
    have eSP : ((str nm).toList == [115, 80, 76, 84]) = true := str_is nm [115, 80, 76, 84] true (by rw [hnm]; decide)
    have eTI : ((str nm).toList == [116, 73, 77, 69]) = false := str_is nm [116, 73, 77, 69] false (by rw [hnm]; decide)
    have HR : Hid (fitsP f prev nm = nz f [Nm.ID]) := Lib.hid (by rw [hnm]; rfl)
    clear hnm hIH hPL hID hCH hGA hIC hSB hSR hHI hTR hBK hPH hSP
    go_enter Try.func64, Try.ntmps64
    go_wp2_with fail
    have hba := below_alloc w (.cells (sts [Nm.ID]) 9)
    have hra := heap_alloc_last w (.cells (sts [Nm.ID]) 9)
    refine (none_any (H.out.below hba) [Nm.ID] w.heap.size 1 rfl hra (fun k hk => by
      have hln := HLN.out
      match k, hk with
      | 0, _ => exact (by decide : (Nm.ID : List UInt8).length ≤ 1000)) (by omega)).mono ?_
    rintro e wa ⟨rfl, rfl⟩
    have HBa := Lib.hid hba
    have Ha := Lib.hid (H.out.below hba)
    clear hba hra
    go_wp2
    go_ret
    exact ⟨by rw [HR.out]; rfl, HBa.out⟩
  by_cases hTI : nm = Nm.TI
  · have hnm := hTI
    have eIH : ((str nm).toList == [73, 72, 68, 82]) = false := str_is nm [73, 72, 68, 82] false (by rw [hnm]; decide)
    have ePL : ((str nm).toList == [80, 76, 84, 69]) = false := str_is nm [80, 76, 84, 69] false (by rw [hnm]; decide)
    have eID : ((str nm).toList == [73, 68, 65, 84]) = false := str_is nm [73, 68, 65, 84] false (by rw [hnm]; decide)
    have eCH : ((str nm).toList == [99, 72, 82, 77]) = false := str_is nm [99, 72, 82, 77] false (by rw [hnm]; decide)
    have eGA : ((str nm).toList == [103, 65, 77, 65]) = false := str_is nm [103, 65, 77, 65] false (by rw [hnm]; decide)
    have eIC : ((str nm).toList == [105, 67, 67, 80]) = false := str_is nm [105, 67, 67, 80] false (by rw [hnm]; decide)
    have eSB : ((str nm).toList == [115, 66, 73, 84]) = false := str_is nm [115, 66, 73, 84] false (by rw [hnm]; decide)
    have eSR : ((str nm).toList == [115, 82, 71, 66]) = false := str_is nm [115, 82, 71, 66] false (by rw [hnm]; decide)
    have eHI : ((str nm).toList == [104, 73, 83, 84]) = false := str_is nm [104, 73, 83, 84] false (by rw [hnm]; decide)
    have eTR : ((str nm).toList == [116, 82, 78, 83]) = false := str_is nm [116, 82, 78, 83] false (by rw [hnm]; decide)
    have eBK : ((str nm).toList == [98, 75, 71, 68]) = false := str_is nm [98, 75, 71, 68] false (by rw [hnm]; decide)
    have ePH : ((str nm).toList == [112, 72, 89, 115]) = false := str_is nm [112, 72, 89, 115] false (by rw [hnm]; decide)
    have eSP : ((str nm).toList == [115, 80, 76, 84]) = false := str_is nm [115, 80, 76, 84] false (by rw [hnm]; decide)
    have eTI : ((str nm).toList == [116, 73, 77, 69]) = true := str_is nm [116, 73, 77, 69] true (by rw [hnm]; decide)
    have HR : Hid (fitsP f prev nm = nz f [Nm.TI]) := Lib.hid (by rw [hnm]; rfl)
    clear hnm hIH hPL hID hCH hGA hIC hSB hSR hHI hTR hBK hPH hSP hTI
    go_enter Try.func64, Try.ntmps64
    go_wp2_with fail
    have hba := below_alloc w (.cells (sts [Nm.TI]) 9)
    have hra := heap_alloc_last w (.cells (sts [Nm.TI]) 9)
    refine (none_any (H.out.below hba) [Nm.TI] w.heap.size 1 rfl hra (fun k hk => by
      have hln := HLN.out
      match k, hk with
      | 0, _ => exact (by decide : (Nm.TI : List UInt8).length ≤ 1000)) (by omega)).mono ?_
    rintro e wa ⟨rfl, rfl⟩
    have HBa := Lib.hid hba
    have Ha := Lib.hid (H.out.below hba)
    clear hba hra
    go_wp2
    go_ret
    exact ⟨by rw [HR.out]; rfl, HBa.out⟩
  have eIH : ((str nm).toList == [73, 72, 68, 82]) = false := str_is nm [73, 72, 68, 82] false (by simpa [Nm.IH] using hIH)
  have ePL : ((str nm).toList == [80, 76, 84, 69]) = false := str_is nm [80, 76, 84, 69] false (by simpa [Nm.PL] using hPL)
  have eID : ((str nm).toList == [73, 68, 65, 84]) = false := str_is nm [73, 68, 65, 84] false (by simpa [Nm.ID] using hID)
  have eCH : ((str nm).toList == [99, 72, 82, 77]) = false := str_is nm [99, 72, 82, 77] false (by simpa [Nm.CH] using hCH)
  have eGA : ((str nm).toList == [103, 65, 77, 65]) = false := str_is nm [103, 65, 77, 65] false (by simpa [Nm.GA] using hGA)
  have eIC : ((str nm).toList == [105, 67, 67, 80]) = false := str_is nm [105, 67, 67, 80] false (by simpa [Nm.IC] using hIC)
  have eSB : ((str nm).toList == [115, 66, 73, 84]) = false := str_is nm [115, 66, 73, 84] false (by simpa [Nm.SB] using hSB)
  have eSR : ((str nm).toList == [115, 82, 71, 66]) = false := str_is nm [115, 82, 71, 66] false (by simpa [Nm.SR] using hSR)
  have eHI : ((str nm).toList == [104, 73, 83, 84]) = false := str_is nm [104, 73, 83, 84] false (by simpa [Nm.HI] using hHI)
  have eTR : ((str nm).toList == [116, 82, 78, 83]) = false := str_is nm [116, 82, 78, 83] false (by simpa [Nm.TR] using hTR)
  have eBK : ((str nm).toList == [98, 75, 71, 68]) = false := str_is nm [98, 75, 71, 68] false (by simpa [Nm.BK] using hBK)
  have ePH : ((str nm).toList == [112, 72, 89, 115]) = false := str_is nm [112, 72, 89, 115] false (by simpa [Nm.PH] using hPH)
  have eSP : ((str nm).toList == [115, 80, 76, 84]) = false := str_is nm [115, 80, 76, 84] false (by simpa [Nm.SP] using hSP)
  have eTI : ((str nm).toList == [116, 73, 77, 69]) = false := str_is nm [116, 73, 77, 69] false (by simpa [Nm.TI] using hTI)
  have HR : Hid (fitsP f prev nm = true) := Lib.hid (by unfold fitsP; rw [if_neg hIH, if_neg hPL, if_neg hID, if_neg hF, if_neg hHI, if_neg (by simp [hTR, hBK, hPH]), if_neg hSP, if_neg hTI])
  clear hF hIH hPL hID hCH hGA hIC hSB hSR hHI hTR hBK hPH hSP hTI
  go_enter Try.func64, Try.ntmps64
  go_wp2
  go_ret
  exact ⟨by rw [HR.out]; rfl, Below.refl _ _⟩
end Hd
end Go.Proofs.Ytbgaaocgdjkkeaa
end
