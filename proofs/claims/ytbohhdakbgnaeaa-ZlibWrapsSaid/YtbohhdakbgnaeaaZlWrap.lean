/- zlib.Wrap: its contract. -/
import Derived.Test.YtbohhdakbgnaeaaSumsPutOf
import Derived.Test.YtbohhdakbgnaeaaSumsAdlerOf
import Derived.Test.YtbohhdakbgnaeaaApartMem
namespace Go.Proofs.Ytbohhdakbgnaeaa
open Go.RowKit
attribute [local go_sem] Oper.semAt_some

namespace Zl
/-- The head's two bytes for the window 2^(8+p). -/
def hd (p : Nat) : List UInt8 := [UInt8.ofNat (16 * p + 8), UInt8.ofNat ((31 - 256 * (16 * p + 8) % 31) % 31)]
theorem adler_lt (l : List UInt8) : Ad.adler l < 4294967296 := by
  unfold Ad.adler
  omega
/-- What wrapped bytes are. -/
def wrapped (p : Nat) (l t : List UInt8) : List UInt8 := hd p ++ l ++ Pt.dig 4 (Ad.adler t)
/-- No window. -/
def NoWin (v : Int) : Prop := v ≠ 256 ∧ v ≠ 512 ∧ v ≠ 1024 ∧ v ≠ 2048 ∧ v ≠ 4096 ∧ v ≠ 8192 ∧ v ≠ 16384 ∧ v ≠ 32768
theorem win_or (v : Int) : (∃ p, p ≤ 7 ∧ v = ((256 * 2 ^ p : Nat) : Int)) ∨ NoWin v := by
  by_cases h0 : v = 256
  · exact .inl ⟨0, by omega, h0⟩
  by_cases h1 : v = 512
  · exact .inl ⟨1, by omega, h1⟩
  by_cases h2 : v = 1024
  · exact .inl ⟨2, by omega, h2⟩
  by_cases h3 : v = 2048
  · exact .inl ⟨3, by omega, h3⟩
  by_cases h4 : v = 4096
  · exact .inl ⟨4, by omega, h4⟩
  by_cases h5 : v = 8192
  · exact .inl ⟨5, by omega, h5⟩
  by_cases h6 : v = 16384
  · exact .inl ⟨6, by omega, h6⟩
  by_cases h7 : v = 32768
  · exact .inl ⟨7, by omega, h7⟩
  exact .inr ⟨h0, h1, h2, h3, h4, h5, h6, h7⟩
end Zl
theorem firstByte_yes (p : Nat) (hp : p ≤ 7) (w : World) :
    Calls Try.prog 13 #[.int .i64 ((256 * 2 ^ p : Nat) : Int)] w fun e w' => e = .returned (.tuple #[.int .i64 ((16 * p + 8 : Nat) : Int), .bool true]) ∧ w = w' := by
  rcases (show p = 0 ∨ p = 1 ∨ p = 2 ∨ p = 3 ∨ p = 4 ∨ p = 5 ∨ p = 6 ∨ p = 7 by omega) with rfl | rfl | rfl | rfl | rfl | rfl | rfl | rfl
  all_goals
    simp only [Nat.reducePow, Nat.reduceMul, Nat.reduceAdd, Int.cast_ofNat_Int]
    go_enter Try.func13, Try.ntmps13
    go_wp2
    refine wp_loop_rounds 8 ?_
    iterate 8 (try (rw [rounds_succ]; go_wp2))
    go_ret2
    exact ⟨rfl, rfl⟩
theorem firstByte_no (v : Int) (h : Zl.NoWin v) (w : World) :
    Calls Try.prog 13 #[.int .i64 v] w fun e w' => e = .returned (.tuple #[.int .i64 0, .bool false]) ∧ w = w' := by
  obtain ⟨h0, h1, h2, h3, h4, h5, h6, h7⟩ := h
  have d0 : (v == 256) = false := by simpa using h0
  have d1 : (v == 512) = false := by simpa using h1
  have d2 : (v == 1024) = false := by simpa using h2
  have d3 : (v == 2048) = false := by simpa using h3
  have d4 : (v == 4096) = false := by simpa using h4
  have d5 : (v == 8192) = false := by simpa using h5
  have d6 : (v == 16384) = false := by simpa using h6
  have d7 : (v == 32768) = false := by simpa using h7
  clear h0 h1 h2 h3 h4 h5 h6 h7
  go_enter Try.func13, Try.ntmps13
  go_wp2
  refine wp_loop_rounds 9 ?_
  iterate 9 (try (rw [rounds_succ]; go_wp2))
  go_ret2
  exact ⟨rfl, rfl⟩
theorem wrap_no (a : Option Addr) (len cap : Nat) (a' : Option Addr) (len' cap' : Nat) (v : Int) (h : Zl.NoWin v) (w : World) :
    Calls Try.prog 5 #[.slice a len cap, .slice a' len' cap', .int .i64 v] w fun e w' => e = .returned (.tuple #[.slice none 0 0, .iface 32 (.int .i64 6)]) ∧ w = w' := by
  have HF := Lib.hid (firstByte_no v h w)
  clear h
  go_enter Try.func5, Try.ntmps5
  go_wp2_with fail
  refine HF.out.mono ?_
  rintro e w' ⟨rfl, rfl⟩
  go_wp2
  go_ret2
  exact ⟨rfl, rfl⟩
/-- What Wrap answers. -/
def WrapPost (w : World) (x : List UInt8) (e : Ending) (w' : World) : Prop :=
  ∃ g, e = .returned (.tuple #[.slice (some ⟨g, 0, none⟩) x.length x.length, .nilIface]) ∧ w'.ownsRow w.heap.size 5 1 (.slice (some ⟨g, 0, none⟩) x.length x.length) x.length (bvs x) ∧ Below w.heap.size w w'
theorem hd_cells (p : Nat) (x y : Int) (hx : x = ((16 * p + 8 : Nat) : Int)) (hp : p ≤ 7) (hy : y = (((31 - 256 * (16 * p + 8) % 31) % 31 : Nat) : Int)) : (bvs (Zl.hd p)).toArray = #[.int .u8 x, .int .u8 y] := by
  subst hx hy
  have u : ∀ m : Nat, m < 256 → (UInt8.ofNat m).toNat = m := fun m hm => by rw [UInt8.toNat_ofNat']; omega
  simp only [bvs, Zl.hd, List.map_cons, List.map_nil, u _ (show 16 * p + 8 < 256 by omega), u _ (show (31 - 256 * (16 * p + 8) % 31) % 31 < 256 by omega)]
set_option maxHeartbeats 1000000 in
theorem wrap_yes (p : Nat) (hp : p ≤ 7) (a : Option Addr) (len cap : Nat) (l : List UInt8) (a' : Option Addr) (len' cap' : Nat) (t : List UInt8) (w : World) (h : Bs w a len cap l) (h' : Bs w a' len' cap' t) (hl : len ≤ 1000000000) :
    Calls Try.prog 5 #[.slice a len cap, .slice a' len' cap', .int .i64 ((256 * 2 ^ p : Nat) : Int)] w (WrapPost w (Zl.wrapped p l t)) := by
  have HF := Lib.hid (firstByte_yes p hp w)
  have H := Lib.hid h
  have H' := Lib.hid h'
  have HL := Lib.hid h.hlen
  clear h h'
  go_enter Try.func5, Try.ntmps5
  go_wp2_with fail
  refine HF.out.mono ?_
  rintro e w' ⟨rfl, rfl⟩
  have own0 := own_new w w.heap.size 5 #[.int .u8 (16 * (p : Int) + 8), .int .u8 (-(256 * (16 * (p : Int) + 8) % 31) % 31)] (Zl.hd p) (Nat.le_refl _) (by simp [Zl.hd]) 2 rfl (hd_cells p _ _ (by omega) hp (by omega))
  have src0 := (H.out.mono (below_alloc w (.cells #[.int .u8 (16 * (p : Int) + 8), .int .u8 (-(256 * (16 * (p : Int) + 8) % 31) % 31)] 5))).src
  go_wp2_with (at_builtin; refine wpl_append tyB rfl _ _ rfl own0 src0 rfl rfl (by omega) (by omega) (by simp) ?_)
  intro v1 w1 own1 g1 _
  have b1 : Below w.heap.size w w1 := (below_alloc w _).grown g1 (by simp) (fun k hk => (own0.lt k hk).1)
  rw [← bvs_append] at own1
  obtain ⟨a1, c1, rfl, hbs1⟩ := own_bs own1 (by omega)
  have H1 := Lib.hid (And.intro hbs1 b1)
  clear own0 src0 own1 g1 hbs1 b1 HF
  go_wp2_with fail
  refine (adler_of (Ad.adler t) _ _ _ [⟨a', len', cap', t⟩] _ (parts_new _ _ rfl _ 22 1 rfl (by omega) _ rfl ?_) (by rw [flat_one])).mono ?_
  · intro s hs
    simp only [List.mem_singleton] at hs
    subst hs
    exact H'.out.mono H1.out.2
  rintro e w2 ⟨rfl, hb2⟩
  have H2 := Lib.hid (And.intro (H1.out.1.mono (below_then (below_alloc _ _) hb2)) (below_then H1.out.2 (below_then (below_alloc _ _) hb2)))
  clear hb2 H1
  have hal := Zl.adler_lt t
  go_wp2_with fail
  refine (put_ok _ _ _ (Zl.hd p ++ l) 4 (Ad.adler t) _ H2.out.1 (by omega) (by omega) (by omega)).mono ?_
  rintro e w3 ⟨g, rfl, own3, hb3⟩
  have hlen : (Zl.wrapped p l t).length = 2 + len + 4 := by
    have := HL.out
    simp [Zl.wrapped, Zl.hd, Pt.dig]; omega
  have HP : Hid (WrapPost w (Zl.wrapped p l t) (.returned (.tuple #[.slice (some ⟨g, 0, none⟩) (2 + len + 4) (2 + len + 4), .nilIface])) w3) := Lib.hid (by
    refine ⟨g, by rw [hlen], ?_, below_then H2.out.2 hb3⟩
    rw [hlen]
    exact own_base own3 (fun g' hg' => Nat.le_trans H2.out.2.size (own3.lt g' hg').1))
  clear own3 hb3 H2 hlen
  go_wp2
  go_ret2
  exact HP.out
end Go.Proofs.Ytbohhdakbgnaeaa
