/- burnishnum.Over: only the bytes' own block changes. -/
import Derived.Test.YtaedajedjbgnbaaCh
import Derived.Test.YtaedajedjbgnbaaNum
namespace Go.Proofs.Ytaedajedjbgnbaa
open Go.RowKit

theorem own_fr {w : World} {base : Nat} {e : TypeId} {size n cap g : Nat} {xs : List Value} (h : w.ownsRow base e size (.slice (some ⟨g, 0, none⟩) n cap) n xs) (o : Nat) : w.frozen? ⟨g, o, none⟩ = false := by
  rcases h.2 with ⟨h', _⟩ | ⟨g', cap', cur, h', hb, hg, _⟩
  · simp at h'
  · simp only [Value.slice.injEq, Option.some.injEq, Addr.mk.injEq, and_true, true_and] at h'
    obtain ⟨rfl, rfl⟩ := h'
    exact frozen_of_row w g o _ _ hg
def OverPost (w : World) (v : Value) (e : Ending) (w' : World) : Prop := e = .returned (.tuple #[]) ∧ Ch w w' (fun k => v.ownBlock = some k)
theorem over_any (B : Nat) (v : Value) (n : Nat) (l : List UInt8) (w : World) (H : w.ownsRow B 5 1 v n (bvs l)) :
    Calls Try.prog 17 #[v] w (OverPost w v) := by
  rcases own_nil_or H with ⟨rfl, rfl⟩ | ⟨g, cap, rfl, hle, _, _, hm⟩
  · go_enter Try.func17, Try.ntmps17
    go_wp2
    go_loopw [5] (fun i wr => i = .int .i64 0 ∧ w = wr) (fun i _ => 0)
    case atStart => exact ⟨rfl, rfl⟩
    case round =>
      obtain ⟨rfl, rfl⟩ := hrel
      go_wp2
      go_end0
      exact ⟨rfl, Ch.refl _ _⟩
  · have H0 := Lib.hid H
    clear H
    go_enter Try.func17, Try.ntmps17
    go_wp2
    go_loopw [5] (fun i wr => ∃ (k : Nat) (m : List UInt8), k ≤ n ∧ i = .int .i64 k ∧ Ch w wr (fun j => j = g) ∧ Hid (wr.ownsRow B 5 1 (.slice (some ⟨g, 0, none⟩) n cap) n (bvs m))) (fun i _ => n - (intOf i).toNat)
    case atStart => exact ⟨0, l, by omega, rfl, Ch.refl _ _, H0⟩
    case round =>
      obtain ⟨k, m, hk, rfl, hc, HO⟩ := hrel
      by_cases hlt : k < n
      · have hml : m.length = n := by have := HO.out.1; rw [bvs_length] at this; omega
        have hcell : wr.cell? ⟨g, k, none⟩ = some (.int .u8 (gb m k)) := by rw [HO.out.cellAt k (by omega), bvs_get m k (by omega)]
        have hfr := own_fr HO.out k
        have hg := gb_lt m k
        have hxv : bits .xor .u8 (gb m k : Int) 255 = (((gb m k ^^^ 255) : Nat) : Int) := u8_xor_nat _ 255 hg (by omega)
        have hx8 : gb m k ^^^ 255 < 256 := Nat.xor_lt_two_pow (n := 8) hg (by omega)
        have H2 := Lib.hid (HO.out.stored k (.int .u8 ((gb m k ^^^ 255 : Nat) : Int))).1
        have e : (bvs m).set k (.int .u8 ((gb m k ^^^ 255 : Nat) : Int)) = bvs (m.set k (UInt8.ofNat (gb m k ^^^ 255))) := by rw [← bvs_set, Nat.mod_eq_of_lt hx8]
        rw [e] at H2
        have hc2 : Ch w (wr.setCell ⟨g, k, none⟩ (.int .u8 ((gb m k ^^^ 255 : Nat) : Int))) (fun j => j = g) := hc.set (.inl rfl) _
        clear e HO hml hc
        generalize m.set k (UInt8.ofNat (gb m k ^^^ 255)) = m2 at *
        generalize gb m k ^^^ 255 = y at *
        generalize gb m k = x at *
        go_wp2
        go_roundw
        case rel => exact ⟨k + 1, m2, by omega, by go_num, hc2, H2⟩
        case measure => simp [intOf]; omega
      · go_wp2
        go_end0
        exact ⟨rfl, hc.wide (fun k hk => .inl (by simp [Value.ownBlock, hk]))⟩
end Go.Proofs.Ytaedajedjbgnbaa
