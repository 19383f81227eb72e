/- bytes.HasPrefix: its contract. -/
import Derived.Test.YtfhmmlpcdgcmoaaBytesEq
namespace Go.Proofs.Ytfhmmlpcdgcmoaa
open Go.RowKit
theorem Bs.take' {w : World} {a : Option Addr} {len cap : Nat} {l : List UInt8} (h : Bs w a len cap l) (n : Nat) (hn : n ≤ len) : Bs w a n cap (l.take n) :=
  ⟨by have := h.hlen; simp; omega, by have := h.hle; omega, by have := h.hcap; omega, h.hmax, h.hnil, fun i hi => by
    obtain ⟨b, off, e, hb, hc⟩ := h.at' i (by omega)
    exact ⟨b, off, e, hb, by rw [hc]; simp [gb, List.getD, List.getElem?_take, hi]⟩⟩

theorem hasPrefix_any (a b : Option Addr) (len cap len' cap' : Nat) (l m : List UInt8) (w : World) (h : Bs w a len cap l) (h' : Bs w b len' cap' m) (hl : len' ≤ len) :
    Calls Try.prog 51 #[.slice a len cap, .slice b len' cap'] w fun e w' => e = .returned (.bool (l.take len' == m)) ∧ w = w' := by
  have hle := h.hle
  have HC := Lib.hid (equal_any a b len' cap len' cap' (l.take len') m w (h.take' len' hl) h')
  have d0 : decide ((len' : Int) ≤ (len : Int)) = true := by simp; omega
  clear h h'
  go_enter Try.func51, Try.ntmps51
  go_wp2_with fail
  refine HC.out.mono ?_
  rintro e w' ⟨rfl, rfl⟩
  go_wp2
  go_ret
  exact ⟨rfl, rfl⟩

theorem hasPrefix_no (a b : Option Addr) (len cap len' cap' : Nat) (w : World) (hl : len < len') :
    Calls Try.prog 51 #[.slice a len cap, .slice b len' cap'] w fun e w' => e = .returned (.bool false) ∧ w = w' := by
  have d0 : decide ((len' : Int) ≤ (len : Int)) = false := by simp; omega
  go_enter Try.func51, Try.ntmps51
  go_wp2
  go_ret
  exact ⟨rfl, rfl⟩
end Go.Proofs.Ytfhmmlpcdgcmoaa
