/- chunk.reader: take, number, chunk: their contracts. -/
import Derived.Test.YtfhmmlpcdgcmoaaCkClone
import Derived.Test.YtfhmmlpcdgcmoaaSumsTakeOf
import Derived.Test.YtfhmmlpcdgcmoaaCkPure
import Derived.Test.YtfhmmlpcdgcmoaaHasPrefix
namespace Go.Proofs.Ytfhmmlpcdgcmoaa
open Go.RowKit

/-- A reader in memory. -/
structure Rdr (w : World) (p b : Nat) (l : List UInt8) : Prop where
  ne : b ≠ p
  at' : ∃ off n c, w.heap[p]? = some (.cells #[.slice (some ⟨b, off, none⟩) n c] 101 (0, 0)) ∧ Bs w (some ⟨b, off, none⟩) n c l
theorem take_end_any (w : World) (p b : Nat) (l : List UInt8) (h : Rdr w p b l) (s : Nat) (hs : l.length < s) :
    Calls Try.prog 75 #[.pointer (some ⟨p, 0, none⟩), .int .i64 s] w fun e w' => e = .returned (.tuple #[.slice none 0 0, .iface 61 (.int .i64 8)]) ∧ w = w' := by
  obtain ⟨off, n, c, hr, hb⟩ := h.at'
  have hl := hb.hlen
  have x0 : w.cell? ⟨p, 0, none⟩ = some (.slice (some ⟨b, off, none⟩) n c) := by rw [cell_of_row _ _ 0 _ _ (0, 0) hr]; rfl
  have d0 : decide (n < s) = true := by simp; omega
  clear h hb hr hl hs
  go_enter Try.func75, Try.ntmps75
  go_wp2
  go_ret2
  exact ⟨rfl, rfl⟩
def TkPost (w : World) (p b : Nat) (l : List UInt8) (s : Nat) (e : Ending) (w' : World) : Prop :=
  ∃ off c, e = .returned (.tuple #[.slice (some ⟨b, off, none⟩) s c, .nilIface]) ∧ Bs w' (some ⟨b, off, none⟩) s c (l.take s) ∧ Rdr w' p b (l.drop s) ∧ Ch w w' (fun k => k = p)
theorem take_ok_any (w : World) (p b : Nat) (l : List UInt8) (h : Rdr w p b l) (s : Nat) (hs : s ≤ l.length) :
    Calls Try.prog 75 #[.pointer (some ⟨p, 0, none⟩), .int .i64 s] w (TkPost w p b l s) := by
  obtain ⟨off, n, c, hr, hb⟩ := h.at'
  have hne := h.ne
  have hl := hb.hlen
  have hle := hb.hle
  have hcap := hb.hcap
  have hmx := hb.hmax
  have x0 : w.cell? ⟨p, 0, none⟩ = some (.slice (some ⟨b, off, none⟩) n c) := by rw [cell_of_row _ _ 0 _ _ (0, 0) hr]; rfl
  have f0 := frozen_of_row w p 0 _ _ hr
  have d0 : decide (n < s) = false := by simp; omega
  have HR := Lib.hid hr
  have HB := Lib.hid hb
  have hsn : s ≤ n := by omega
  clear h hb hr hl hs
  by_cases hcs : ¬ c = s
  · go_enter Try.func75, Try.ntmps75
    go_wp2
    have hch : Ch w (w.setCell ⟨p, 0, none⟩ (.slice (some ⟨b, off + s, none⟩) (n - s) (c - s))) (fun k => k = p) := (Ch.refl w (fun k => k = p)).set (p := ⟨p, 0, none⟩) (.inl rfl) _
    go_ret2
    refine ⟨off, _, rfl, ((HB.out.take' s hsn).chg hch (fun b' off' e h => ?_)), ⟨hne, _, _, _, heap_setCell_same w p 0 _ _ _ HR.out, ((HB.out.drop s hsn (some ⟨b, off + s, none⟩) (fun _ => rfl)).chg hch (fun b' off' e h => ?_))⟩, hch⟩
    · simp only [Option.some.injEq, Addr.mk.injEq, and_true] at e; exact hne (by rw [e.1]; exact h)
    · simp only [Option.some.injEq, Addr.mk.injEq, and_true] at e; exact hne (by rw [e.1]; exact h)
  · obtain rfl : c = s := by omega
    obtain rfl : c = n := by omega
    clear hcs
    go_enter Try.func75, Try.ntmps75
    go_wp2
    have hch : Ch w (w.setCell ⟨p, 0, none⟩ (.slice (some ⟨b, off, none⟩) 0 0)) (fun k => k = p) := (Ch.refl w (fun k => k = p)).set (p := ⟨p, 0, none⟩) (.inl rfl) _
    go_ret2
    have hd := HB.out.drop c hsn (some ⟨b, off, none⟩) (fun h => absurd rfl h)
    rw [Nat.sub_self] at hd
    refine ⟨off, _, rfl, ((HB.out.take' c hsn).chg hch (fun b' off' e h => ?_)), ⟨hne, _, _, _, heap_setCell_same w p 0 _ _ _ HR.out, (hd.chg hch (fun b' off' e h => ?_))⟩, hch⟩
    · simp only [Option.some.injEq, Addr.mk.injEq, and_true] at e; exact hne (by rw [e.1]; exact h)
    · simp only [Option.some.injEq, Addr.mk.injEq, and_true] at e; exact hne (by rw [e.1]; exact h)
theorem Rdr.len {w : World} {p b : Nat} {l : List UInt8} (h : Rdr w p b l) : l.length ≤ 281474976710656 := by
  obtain ⟨_, _, _, _, hb⟩ := h.at'
  have := hb.hlen; have := hb.hcap; omega
theorem Rdr.lt {w : World} {p b : Nat} {l : List UInt8} (h : Rdr w p b l) : p < w.heap.size := by
  obtain ⟨_, _, _, hr, _⟩ := h.at'
  exact (Array.getElem?_eq_some_iff.1 hr).1
theorem Rdr.below {w w' : World} {p b : Nat} {l : List UInt8} (h : Rdr w p b l) (hb : Below w.heap.size w w') : Rdr w' p b l := by
  have hlt := h.lt
  obtain ⟨off, n, c, hr, hbs⟩ := h.at'
  exact ⟨h.ne, off, n, c, (hb.block p hlt).trans hr, hbs.mono hb⟩
theorem number_end_any (w : World) (p b : Nat) (l : List UInt8) (h : Rdr w p b l) (hs : l.length < 4) :
    Calls Try.prog 74 #[.pointer (some ⟨p, 0, none⟩)] w fun e w' => e = .returned (.tuple #[.int .i64 0, .iface 61 (.int .i64 8)]) ∧ w = w' := by
  have HT := Lib.hid (take_end_any w p b l h 4 hs)
  go_enter Try.func74, Try.ntmps74
  go_wp2_with fail
  refine HT.out.mono ?_
  rintro e w' ⟨rfl, rfl⟩
  go_wp2
  go_ret2
  exact ⟨rfl, rfl⟩
def NuPost (w : World) (p b : Nat) (l : List UInt8) (e : Ending) (w' : World) : Prop :=
  e = .returned (.tuple #[.int .i64 (Pt.num (l.take 4) : Nat), .nilIface]) ∧ Rdr w' p b (l.drop 4) ∧ Ch w w' (fun k => k = p)
theorem number_ok_any (w : World) (p b : Nat) (l : List UInt8) (h : Rdr w p b l) (hs : 4 ≤ l.length) :
    Calls Try.prog 74 #[.pointer (some ⟨p, 0, none⟩)] w (NuPost w p b l) := by
  have HT := Lib.hid (take_ok_any w p b l h 4 hs)
  go_enter Try.func74, Try.ntmps74
  go_wp2_with fail
  refine HT.out.mono ?_
  rintro e w1 ⟨off, c, rfl, hb1, hr1, hc1⟩
  have HR := Lib.hid hr1
  have HC := Lib.hid hc1
  have HK := Lib.hid (take_ok (some ⟨b, off, none⟩) 4 c 4 (l.take 4) w1 hb1 (by omega) (by omega) (by omega) (by omega))
  clear hb1 hr1 hc1
  go_wp2_with fail
  refine HK.out.mono ?_
  rintro e w2 ⟨v, rfl, _, hb2⟩
  rw [List.take_take, Nat.min_self]
  have HR2 := Lib.hid (HR.out.below hb2)
  have HC2 : Hid (Ch w w2 (fun k => k = p)) := Lib.hid (HC.out.trans (U := fun _ => False) (Ch.of_below hb2) (fun _ h => h.elim))
  clear hb2
  obtain ⟨q, hq⟩ : ∃ q, Pt.num (l.take 4) = q := ⟨_, rfl⟩
  rw [hq]
  have HQ := Lib.hid hq
  clear hq
  go_wp2
  go_ret2
  exact ⟨by rw [HQ.out]; rfl, HR2.out, HC2.out⟩
end Go.Proofs.Ytfhmmlpcdgcmoaa
