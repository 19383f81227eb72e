/- A block of bytes, whole. -/
import Derived.Test.YtbgaaocgdjkkeaaDoorProg
import Derived.Test.YtbgaaocgdjkkeaaDoorCh
import Derived.Test.YtbgaaocgdjkkeaaDoorFlMath
namespace Go.Proofs.YtbgaaocgdjkkeaaDoor
open Go.RowKit

/-- Block g holds just the bytes L. -/
def Bk (w : World) (g : Nat) (L : List UInt8) : Prop := w.heap[g]? = some (.cells (bvs L).toArray 5 (0, 0))
theorem Bk.lt {w : World} {g : Nat} {L : List UInt8} (h : Bk w g L) : g < w.heap.size := (Array.getElem?_eq_some_iff.1 h).1
theorem Bk.cell {w : World} {g : Nat} {L : List UInt8} (h : Bk w g L) (i : Nat) (hi : i < L.length) : w.cell? ⟨g, i, none⟩ = some (.int .u8 (gb L i)) := by
  rw [cell_of_row _ _ _ _ _ _ h, ← bvs_get L i hi]; simp
theorem Bk.fz {w : World} {g : Nat} {L : List UInt8} (h : Bk w g L) (i : Nat) : w.frozen? ⟨g, i, none⟩ = false := frozen_of_row w g i _ _ h
theorem Bk.bs {w : World} {g : Nat} {L : List UInt8} (h : Bk w g L) (o n cap : Nat) (hn : o + n ≤ L.length) (hc : n ≤ cap) (hm : cap ≤ 281474976710656) :
    Bs w (some ⟨g, o, none⟩) n cap ((L.drop o).take n) := by
  refine ⟨by simp; omega, hc, by omega, by omega, fun h => by simp at h, fun i hi => ⟨g, o, rfl, h.lt, ?_⟩⟩
  rw [h.cell (o + i) (by omega)]
  simp [gb, List.getD, List.getElem?_take, List.getElem?_drop, hi]
theorem Bk.set {w : World} {g : Nat} {L : List UInt8} (h : Bk w g L) (j n : Nat) : Bk (w.setCell ⟨g, j, none⟩ (.int .u8 ((n % 256 : Nat) : Int))) g (L.set j (UInt8.ofNat n)) := by
  unfold Bk
  rw [heap_setCell_same w g _ _ _ _ h, ← bvs_set]
  simp
theorem Bk.of_own {w : World} {base g n : Nat} {L : List UInt8} (h : w.ownsRow base 5 1 (.slice (some ⟨g, 0, none⟩) n n) n (bvs L)) : Bk w g L := by
  obtain ⟨h1, h2⟩ := h
  rcases h2 with ⟨h2, _⟩ | ⟨g', cap, cur, hv, _, hg, h3, h4, h5, h6⟩
  · simp at h2
  · simp only [Value.slice.injEq, Option.some.injEq, Addr.mk.injEq, and_true, true_and] at hv
    obtain ⟨rfl, rfl⟩ := hv
    unfold Bk
    have h7 : cur.toList = bvs L := by rw [← h6, List.take_of_length_le]; simp [h5]
    rw [hg, ← h7]
theorem Bk.own {w : World} {base g n : Nat} {L : List UInt8} (h : Bk w g L) (hb : base ≤ g) (hl : L.length = n) (hm : n ≤ 281474976710656) : w.ownsRow base 5 1 (.slice (some ⟨g, 0, none⟩) n n) n (bvs L) := by
  subst hl
  refine ⟨by simp [bvs_length], .inr ⟨g, L.length, (bvs L).toArray, rfl, hb, h, Nat.le_refl _, by unfold maxLen; omega, by simp [bvs_length], ?_⟩⟩
  rw [List.take_of_length_le (by simp [bvs_length])]
theorem ch_one {w wr : World} {g : Nat} (h : Ch w wr (fun k => k = g)) (j : Nat) (v : Value) : Ch w (wr.setCell ⟨g, j, none⟩ v) (fun k => k = g) := h.set (.inl rfl) v
/-- A slice that lies elsewhere. -/
theorem Bs.elsewhere {w w' : World} {a : Option Addr} {len cap : Nat} {l : List UInt8} (h : Bs w a len cap l) {g : Nat} (hg : ∀ ad, a = some ad → ad.block ≠ g) (hc : Ch w w' (fun k => k = g)) : Bs w' a len cap l :=
  ⟨h.hlen, h.hle, h.hcap, h.hmax, h.hnil, fun i hi => by
    obtain ⟨b, off, e, hlt, hcc⟩ := h.at' i hi
    refine ⟨b, off, e, Nat.lt_of_lt_of_le hlt hc.size, ?_⟩
    rw [World.cell?_of_block (hc.block b hlt (hg _ e))]; exact hcc⟩
theorem set_mid (A B C : List UInt8) (x : UInt8) (a b : Nat) (ha : A.length = a) (hb : B.length = b) (hc : 0 < C.length) : (A ++ B ++ C).set (a + b) x = A ++ (B ++ [x]) ++ C.drop 1 := by
  subst ha hb
  cases C with
  | nil => simp at hc
  | cons c C => rw [List.set_append_right _ _ (by simp)]; simp
end Go.Proofs.YtbgaaocgdjkkeaaDoor
