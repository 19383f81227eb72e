/- What the laws of rows need: the row as it lies, alive, large. -/
import Derived.Test.YtbgaaocgdjkkeaaFlOf
namespace Go.Proofs.Ytbgaaocgdjkkeaa
open Go.RowKit

/-- A law's row in a block of its own. -/
structure Fi.Rx (w : World) (g : Nat) (k : Int) (a : Option Addr) (len cap : Nat) (b : Option Addr) (blen bcap : Nat) (p : Int) : Prop where
  row : w.heap[g]? = some (.cells #[.int .i64 k, .slice a len cap, .slice b blen bcap, .int .i64 p] 44 (0, 0))
theorem Fi.Rx.below {w w' : World} {g : Nat} {k : Int} {a : Option Addr} {len cap : Nat} {b : Option Addr} {blen bcap : Nat} {p : Int} (h : Fi.Rx w g k a len cap b blen bcap p) (hb : Below w.heap.size w w') : Fi.Rx w' g k a len cap b blen bcap p :=
  ⟨(hb.block g (Array.getElem?_eq_some_iff.1 h.row).1).trans h.row⟩
theorem Fi.Rx.cells {w : World} {g : Nat} {k : Int} {a : Option Addr} {len cap : Nat} {b : Option Addr} {blen bcap : Nat} {p : Int} (h : Fi.Rx w g k a len cap b blen bcap p) :
    w.cell? ⟨g, 0, none⟩ = some (.int .i64 k) ∧ w.cell? ⟨g, 1, none⟩ = some (.slice a len cap) ∧ w.cell? ⟨g, 2, none⟩ = some (.slice b blen bcap) ∧ w.cell? ⟨g, 3, none⟩ = some (.int .i64 p) :=
  ⟨(cell_of_row _ _ 0 _ _ (0, 0) h.row).trans rfl, (cell_of_row _ _ 1 _ _ (0, 0) h.row).trans rfl, (cell_of_row _ _ 2 _ _ (0, 0) h.row).trans rfl, (cell_of_row _ _ 3 _ _ (0, 0) h.row).trans rfl⟩
theorem Fi.Rx.load {w : World} {g : Nat} {k : Int} {a : Option Addr} {len cap : Nat} {b : Option Addr} {blen bcap : Nat} {p : Int} (h : Fi.Rx w g k a len cap b blen bcap p) :
    (loadVar 44 ⟨g, 0, none⟩).run Try.prog w = .ok (.agg #[.int .i64 k, .slice a len cap, .slice b blen bcap, .int .i64 p]) w :=
  run_loadVar_row w g _ 44 _ (0, 0) _ h.row Try.underlying44 rfl (by kernel_rfl)
theorem Fi.Rx.new (w : World) (k : Int) (a : Option Addr) (len cap : Nat) (b : Option Addr) (blen bcap : Nat) (p : Int) :
    Fi.Rx (w.alloc (.cells #[.int .i64 k, .slice a len cap, .slice b blen bcap, .int .i64 p] 44)) w.heap.size k a len cap b blen bcap p := ⟨heap_alloc_last w _⟩
theorem rowLarge_any (k : Int) (a : Option Addr) (len cap : Nat) (b : Option Addr) (blen bcap : Nat) (p : Int) (w : World) (h1 : len ≤ 140737488351232) (h2 : blen ≤ 140737488351232) :
    Calls Try.prog 17 #[.agg #[.int .i64 k, .slice a len cap, .slice b blen bcap, .int .i64 p]] w fun e w' => e = .returned (.bool (decide (5000 < len) || decide (5000 < blen))) ∧ Below w.heap.size w w' := by
  have HB := Lib.hid (below_alloc w (.cells #[.int .i64 k, .slice a len cap, .slice b blen bcap, .int .i64 p] 44))
  obtain ⟨c0, c1, c2, c3⟩ := (Fi.Rx.new w k a len cap b blen bcap p).cells
  have q1 : decide ((5000 : Int) < (len : Int)) = decide (5000 < len) := by rw [decide_eq_decide]; omega
  have q2 : decide ((5000 : Int) < (blen : Int)) = decide (5000 < blen) := by rw [decide_eq_decide]; omega
  cases d1 : decide (5000 < len)
  · rw [d1] at q1
    generalize decide (5000 < blen) = z at *
    go_enter Try.func17, Try.ntmps17
    go_wp2
    go_ret
    exact ⟨rfl, HB.out⟩
  · rw [d1] at q1
    generalize decide (5000 < blen) = z at *
    go_enter Try.func17, Try.ntmps17
    go_wp2
    go_ret
    exact ⟨by simp, HB.out⟩
theorem alive14_any (w : World) : Calls Try.prog 16 #[] w fun e w' => e = .returned (.bool true) ∧ Below w.heap.size w w' := by
  have hbs := bs_new w w.heap.size rfl [1, 3, 6] 5 (0, 0) 3 rfl (by omega) #[.int .u8 1, .int .u8 3, .int .u8 6] rfl
  have hF := filter_any 1 (some ⟨w.heap.size, 0, none⟩) 3 3 [1, 3, 6] none 0 0 [] 1 _ hbs (bs_nil _) (by omega) (by omega)
  rw [show Fi.flt 1 [1, 3, 6] [] (1 : Int).toNat = [1, 2, 3] by decide +kernel] at hF
  have HF := Lib.hid hF
  have HB0 := Lib.hid (below_alloc w (.cells #[.int .u8 1, .int .u8 3, .int .u8 6] 5))
  clear hbs hF
  go_enter Try.func16, Try.ntmps16
  go_wp2_with fail
  refine HF.out.mono ?_
  rintro e w2 ⟨hb2, hcase⟩
  rcases hcase with ⟨_, g, rfl, own⟩ | ⟨h0, _⟩
  · obtain ⟨a2, c2, e2, hbs2⟩ := own_bs own (by omega)
    simp only [Value.slice.injEq] at e2
    obtain ⟨rfl, _, rfl⟩ := e2
    have k1 := conv_bs (P := Try.prog) hbs2 24 9 5 Try.underlying24 Try.underlying5 Try.underlying9
    have kj : ((str [1, 2, 3]).toList == [1, 2, 3]) = true := by rw [str_list]; rfl
    have HB2 := Lib.hid (below_then HB0.out hb2)
    clear hb2 own hbs2 HF HB0
    go_wp2
    go_ret
    exact ⟨rfl, HB2.out⟩
  · exact absurd h0 (by decide)
/-- What Filter answers a good row. -/
def Fi.GPost (W : World) (n : Nat) (r : List UInt8) (e : Ending) (w' : World) : Prop :=
  ∃ g, e = .returned (.tuple #[.slice (some ⟨g, 0, none⟩) n n, .nilIface]) ∧ Hid (Bs w' (some ⟨g, 0, none⟩) n n r) ∧ Hid (w'.ownsRow W.heap.size 5 1 (.slice (some ⟨g, 0, none⟩) n n) n (bvs r)) ∧ Below W.heap.size W w'
theorem filter_good (k : Int) (ra : Option Addr) (n rcap : Nat) (l : List UInt8) (aa : Option Addr) (alen acap : Nat) (m : List UInt8) (p : Int) (w : World) (hg : Fi.good k n alen p = true)
    (hr : Bs w ra n rcap l) (ha : Bs w aa alen acap m) (hn : n ≤ 1000000) (hm : alen ≤ 1000000) :
    Calls Try.prog 18 #[.int .i64 k, .slice ra n rcap, .slice aa alen acap, .int .i64 p] w (Fi.GPost w n (Fi.flt k l m p.toNat)) :=
  (filter_any k ra n rcap l aa alen acap m p w hr ha (by omega) (by omega)).mono (fun e w' h => by
    obtain ⟨h1, h2⟩ := h
    rcases h2 with ⟨_, g, h3, h4⟩ | ⟨h3, _⟩
    · obtain ⟨a2, c2, e2, hbs2⟩ := own_bs h4 (by omega)
      simp only [Value.slice.injEq] at e2
      obtain ⟨rfl, _, rfl⟩ := e2
      exact ⟨g, h3, Lib.hid hbs2, Lib.hid h4, h1⟩
    · rw [hg] at h3; cases h3)
theorem unfilter_good (k : Int) (ra : Option Addr) (n rcap : Nat) (l : List UInt8) (aa : Option Addr) (alen acap : Nat) (m : List UInt8) (p : Int) (w : World) (hg : Fi.good k n alen p = true)
    (hr : Bs w ra n rcap l) (ha : Bs w aa alen acap m) (hn : n ≤ 1000000) (hm : alen ≤ 1000000) :
    Calls Try.prog 19 #[.int .i64 k, .slice ra n rcap, .slice aa alen acap, .int .i64 p] w (Fi.GPost w n (Fi.unf k l m p.toNat)) :=
  (unfilter_any k ra n rcap l aa alen acap m p w hr ha (by omega) (by omega)).mono (fun e w' h => by
    obtain ⟨h1, h2⟩ := h
    rcases h2 with ⟨_, g, h3, h4⟩ | ⟨h3, _⟩
    · obtain ⟨a2, c2, e2, hbs2⟩ := own_bs h4 (by omega)
      simp only [Value.slice.injEq] at e2
      obtain ⟨rfl, _, rfl⟩ := e2
      exact ⟨g, h3, Lib.hid hbs2, Lib.hid h4, h1⟩
    · rw [hg] at h3; cases h3)
theorem filter_bad (k : Int) (ra : Option Addr) (n rcap : Nat) (l : List UInt8) (aa : Option Addr) (alen acap : Nat) (m : List UInt8) (p : Int) (w : World) (hg : Fi.good k n alen p = false)
    (hr : Bs w ra n rcap l) (ha : Bs w aa alen acap m) (hn : n ≤ 1000000) (hm : alen ≤ 1000000) :
    Calls Try.prog 18 #[.int .i64 k, .slice ra n rcap, .slice aa alen acap, .int .i64 p] w fun e w' => e = .returned (.tuple #[.slice none 0 0, .iface 49 (.int .i64 6)]) ∧ Below w.heap.size w w' :=
  (filter_any k ra n rcap l aa alen acap m p w hr ha (by omega) (by omega)).mono (fun e w' h => by
    obtain ⟨h1, h2⟩ := h
    rcases h2 with ⟨h3, _⟩ | ⟨_, h3⟩
    · rw [hg] at h3; cases h3
    · exact ⟨h3, h1⟩)
theorem unfilter_bad (k : Int) (ra : Option Addr) (n rcap : Nat) (l : List UInt8) (aa : Option Addr) (alen acap : Nat) (m : List UInt8) (p : Int) (w : World) (hg : Fi.good k n alen p = false)
    (hr : Bs w ra n rcap l) (ha : Bs w aa alen acap m) (hn : n ≤ 1000000) (hm : alen ≤ 1000000) :
    Calls Try.prog 19 #[.int .i64 k, .slice ra n rcap, .slice aa alen acap, .int .i64 p] w fun e w' => e = .returned (.tuple #[.slice none 0 0, .iface 49 (.int .i64 6)]) ∧ Below w.heap.size w w' :=
  (unfilter_any k ra n rcap l aa alen acap m p w hr ha (by omega) (by omega)).mono (fun e w' h => by
    obtain ⟨h1, h2⟩ := h
    rcases h2 with ⟨h3, _⟩ | ⟨_, h3⟩
    · rw [hg] at h3; cases h3
    · exact ⟨h3, h1⟩)
end Go.Proofs.Ytbgaaocgdjkkeaa
