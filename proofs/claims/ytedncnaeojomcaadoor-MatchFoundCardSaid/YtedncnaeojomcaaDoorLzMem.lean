/- A forest in memory; crown: its contract. -/
import Derived.Test.YtedncnaeojomcaaDoorLzKey
import Derived.Test.YtedncnaeojomcaaDoorLzForest
import Derived.Test.YtedncnaeojomcaaDoorDnB
import Derived.Test.YtedncnaeojomcaaDoorCh
import Derived.StillTailTactics
import Derived.Deep.QuietTactic
import Derived.BigQuiet
namespace Go.Proofs.YtedncnaeojomcaaDoor
open Go.RowKit Go.Maps

/-- A forest in memory: its struct at g, its map at mb, its places' sides at bb. -/
structure Fm (w : World) (g mb bb : Nat) (a : Option Addr) (cap N n : Nat) (l : List UInt8) (top : Nat × Nat × Nat → Int) (f : Nat → Bool → Int) : Prop where
  row : w.heap[g]? = some (.cells #[.slice a N cap, .map (some mb), .slice (some ⟨bb, 0, none⟩) N N] 99 (0, 0))
  txt : Bs w a N cap l
  tops : Tops 21 .i32 w mb n (-1) top
  below : ∃ cs, w.heap[bb]? = some (.cells cs 102 (0, 0)) ∧ cs.size = 2 * N ∧ ∀ x, x < N → cs[2 * x]? = some (.int .i32 (f x false)) ∧ cs[2 * x + 1]? = some (.int .i32 (f x true))
  n1 : mb ≠ g
  n2 : bb ≠ g
  n3 : bb ≠ mb
  ta : ∀ ad, a = some ad → ad.block ≠ g ∧ ad.block ≠ mb ∧ ad.block ≠ bb
  tv : ∀ k, -1 ≤ top k ∧ top k < 1048576
theorem ch_grown {w w' : World} {b : Nat} (h : w.grownBy w' (some b)) : Ch w w' (fun k => k = b) := ⟨h.os, h.tape, h.output, h.size, fun k hk hn => h.block k hk (fun e => hn (Option.some.inj e))⟩
theorem Bs.kept {w w' : World} {T : Nat → Prop} {a : Option Addr} {len cap : Nat} {l : List UInt8} (h : Bs w a len cap l) (c : Ch w w' T) (hn : ∀ ad, a = some ad → ¬ T ad.block) : Bs w' a len cap l :=
  ⟨h.hlen, h.hle, h.hcap, h.hmax, h.hnil, fun i hi => by
    obtain ⟨b, off, e, hb, hc⟩ := h.at' i hi
    exact ⟨b, off, e, Nat.lt_of_lt_of_le hb c.size, by rw [World.cell?_of_block (w := w) (c.block b hb (hn _ e))]; exact hc⟩⟩
theorem crown_map {D : DataW Unit} {top : Nat × Nat × Nat → Int} {k : Nat × Nat × Nat} {t : Nat} {q : IntKind} {no : Int} (hD : ∀ k, K8 k → (Maps.has D (kl k) = true → D.atKey (kl k) (.lit (.int q 0)) = .lit (.int q (top k))) ∧ (Maps.has D (kl k) = false → top k = no)) (hk : K8 k) (hm : Maps.IsMap D) :
    ∀ j, K8 j → (Maps.has (D.put (kl k) (.lit (.int q (t : Int)))) (kl j) = true → (D.put (kl k) (.lit (.int q (t : Int)))).atKey (kl j) (.lit (.int q 0)) = .lit (.int q (if j = k then (t : Int) else top j))) ∧ (Maps.has (D.put (kl k) (.lit (.int q (t : Int)))) (kl j) = false → (if j = k then (t : Int) else top j) = no) := fun j hj => by
  by_cases e : j = k
  · subst e
    rw [if_pos rfl]
    refine ⟨fun _ => Maps.atKey_put_same hm (key_lit _ hj) _ _, fun h => ?_⟩
    rw [Maps.has_put_same hm (key_lit _ hj)] at h
    cases h
  · rw [if_neg e, Maps.has_put_other (key_ne hj hk e), Maps.atKey_put_other (key_ne hj hk e)]
    exact hD j hj
theorem crown_left {w wB w2 : World} {g mb bb : Nat} {a : Option Addr} {cap N n : Nat} {l : List UInt8} {top : Nat × Nat × Nat → Int} {f : Nat → Bool → Int} (h : Fm w g mb bb a cap N n l top f) (hb : Below w.heap.size w wB) (hg : wB.grownBy w2 (some mb)) {t : Nat} (ht : t < 1048576) {k : Nat × Nat × Nat} (hk : K8 k)
    (ho : Tops 21 .i32 w2 mb (n + 1) (-1) (fun j => if j = k then (t : Int) else top j)) : Fm w2 g mb bb a cap N (n + 1) l (fun j => if j = k then (t : Int) else top j) f ∧ Ch w w2 (fun b => b = mb) := by
  have hc : Ch w w2 (fun b => b = mb) := ((Ch.of_below (T := fun b => b = mb) hb).trans (ch_grown hg) (fun n hn => .inl hn))
  have lt : ∀ {i : Nat} {o : Obj}, w.heap[i]? = some o → i < w.heap.size := fun h => (Array.getElem?_eq_some_iff.1 h).1
  obtain ⟨cs, hcs, h1, h2⟩ := h.below
  exact ⟨⟨(hc.block g (lt h.row) (fun e => h.n1 e.symm)).trans h.row, h.txt.kept hc (fun ad e => (h.ta ad e).2.1), ho, ⟨cs, (hc.block bb (lt hcs) h.n3).trans hcs, h1, h2⟩, h.n1, h.n2, h.n3, h.ta, fun j => by
    split
    · omega
    · exact h.tv j⟩, hc⟩
set_option maxRecDepth 100000 in
set_option maxHeartbeats 4000000 in
theorem crown_any {w : World} {g mb bb : Nat} {a : Option Addr} {cap N n : Nat} {l : List UInt8} {top : Nat × Nat × Nat → Int} {f : Nat → Bool → Int} (h : Fm w g mb bb a cap N n l top f) (t : Nat) (ht : t < 1048576) (k : Nat × Nat × Nat) (hk : K8 k) (hn : n < 2000000) :
    Calls Tryd.prog 55 #[.pointer (some ⟨g, 0, none⟩), .int .i64 (t : Nat), kv k] w fun e w' => e = .returned (.int .i32 (top k)) ∧ Fm w' g mb bb a cap N (n + 1) l (fun j => if j = k then (t : Int) else top j) f ∧ Ch w w' (fun b => b = mb) := by
  obtain ⟨D, hown, hD⟩ := h.tops
  have c0 : w.cell? ⟨g, 1, none⟩ = some (.map (some mb)) := by rw [cell_of_row _ _ _ _ _ (0, 0) h.row]; rfl
  have hkey := key_is k hk
  have zero : ∀ w : World, (zeroValue 21).run Tryd.prog w = .ok (.int .i32 0) w := fun w => by kernel_rfl
  have hg := (Array.getElem?_eq_some_iff.1 h.row).1
  have H := Lib.hid h
  obtain ⟨x, y, z⟩ := k
  obtain ⟨wA, hwA⟩ : ∃ wA, w.alloc (.cells #[.int .u8 (x : Int), .int .u8 (y : Int), .int .u8 (z : Int)] 46) = wA := ⟨_, rfl⟩
  have hbA : Below w.heap.size w wA := by rw [← hwA]; exact below_alloc _ _
  have hownA : wA.ownsMap Tryd.prog 46 (plainElem Tryd.prog 21) mb n D := by rw [← hwA]; exact hown.alloc _
  have cA : wA.cell? ⟨g, 1, none⟩ = some (.map (some mb)) := by rw [hbA.cell (p := ⟨g, 1, none⟩) hg]; exact c0
  obtain ⟨o, ho⟩ : ∃ o, Maps.has D (kl (x, y, z)) = o := ⟨_, rfl⟩
  obtain ⟨c, hc, hco⟩ : ∃ c : Int, D.atKey (kl (x, y, z)) (.lit (.int .i32 0)) = .lit (.int .i32 c) ∧ (if o then c else -1) = top (x, y, z) := by
    cases o
    · exact ⟨0, Maps.atKey_of_not_has ho _, ((hD _ hk).2 ho).symm⟩
    · exact ⟨_, (hD _ hk).1 ho, rfl⟩
  have hlk : ∀ m, (Instr.lookup 96 (.map (some mb)) (kv (x, y, z)) true).run Tryd.prog (wA.drewN m) = .ok (.tuple #[.int .i32 c, .bool o]) (wA.drewN m) := fun m => by
    have hm : (wA.drewN m).ownsMap Tryd.prog 46 (plainElem Tryd.prog 21) mb n D := hownA
    obtain ⟨v, ps, hlk, hv⟩ := hm.look_ok key_law Tryd.underlying96 (zero _) (plainElem_int Tryd.underlying21 (by decide)) hkey
    obtain ⟨c', rfl, e1, _⟩ := plainElem_int_inv Tryd.underlying21 hv
    rw [hc] at e1
    simp only [Prod.mk.injEq, DataW.lit.injEq, Lit.int.injEq, true_and] at e1
    rw [hlk, ho, e1.1]
  have hbox : wA.heap[w.heap.size]? = some (.cells #[.int .u8 (x : Int), .int .u8 (y : Int), .int .u8 (z : Int)] 46 (0, 0)) := by rw [← hwA]; exact heap_alloc_last w _
  have hload : ∀ m, (loadVar 46 ⟨w.heap.size, 0, none⟩).run Tryd.prog (wA.drewN m) = .ok (.agg #[.int .u8 (x : Int), .int .u8 (y : Int), .int .u8 (z : Int)]) (wA.drewN m) := fun m =>
    run_loadVar_row (P := Tryd.prog) (wA.drewN m) w.heap.size 46 46 _ (0, 0) _ hbox Tryd.underlying46 rfl (by kernel_rfl)
  have b0 : wA.cell? ⟨w.heap.size, 0, none⟩ = some (.int .u8 (x : Int)) := by rw [cell_of_row _ _ _ _ _ (0, 0) hbox]; rfl
  have b1 : wA.cell? ⟨w.heap.size, 1, none⟩ = some (.int .u8 (y : Int)) := by rw [cell_of_row _ _ _ _ _ (0, 0) hbox]; rfl
  have b2 : wA.cell? ⟨w.heap.size, 2, none⟩ = some (.int .u8 (z : Int)) := by rw [cell_of_row _ _ _ _ _ (0, 0) hbox]; rfl
  clear hc
  have HUP : Hid (∀ m, ∃ w2, (Instr.mapUpdate 96 (.map (some mb)) (kv (x, y, z)) (.int .i32 (t : Int))).run Tryd.prog ((wA.drewN m).drew) = .ok () w2 ∧ w2.ownsMap Tryd.prog 46 (plainElem Tryd.prog 21) mb (n + 1) (D.put (kl (x, y, z)) (.lit (.int .i32 (t : Int)))) ∧ ((wA.drewN m).drew).grownBy w2 (some mb)) := Lib.hid (fun m =>
    (show ((wA.drewN m).drew).ownsMap Tryd.prog 46 (plainElem Tryd.prog 21) mb n D from hownA).update key_law Tryd.underlying96 (by unfold maxLen; omega) hkey (plainElem_int (H := Unit) Tryd.underlying21 (a := (t : Int)) (by simp [Lit.wf, IntKind.min, IntKind.max, IntKind.signed, IntKind.bits]; omega)))
  unfold kv at hlk HUP ⊢
  dsimp only at hlk HUP ⊢
  go_enter Tryd.func55, Tryd.ntmps55
  go_wp2_with fail
  go_quiet (fail)
  rename_i nq
  have HB : Hid (Below w.heap.size w (wA.drewN nq)) := Lib.hid (below_then hbA (dn_below wA nq))
  obtain ⟨w2, hup, hown2, hgr2⟩ := HUP.out nq
  have cB : (wA.drewN nq).cell? ⟨g, 1, none⟩ = some (.map (some mb)) := cA
  have e0 : (wA.drewN nq).cell? ⟨w.heap.size, 0, none⟩ = some (.int .u8 (x : Int)) := b0
  have e1 : (wA.drewN nq).cell? ⟨w.heap.size, 1, none⟩ = some (.int .u8 (y : Int)) := b1
  have e2 : (wA.drewN nq).cell? ⟨w.heap.size, 2, none⟩ = some (.int .u8 (z : Int)) := b2
  have hwrap : IntKind.i32.wrap (t : Int) = (t : Int) := by simp only [IntKind.wrap, IntKind.signed, IntKind.bits]; first | omega | (simp; omega)
  clear hlk hload HUP b0 b1 b2 cA hbox hownA hwA
  revert cB e0 e1 e2 hup hgr2 HB
  generalize World.drewN wA nq = wB
  intro HB hup hgr2 cB e0 e1 e2
  go_wp2_with fail
  go_still_tail 7, (by kernel_rfl)
  change wpList _ _ _ _ _ wB.drew
  have HBD : Hid (Below w.heap.size w wB.drew) := Lib.hid (below_then HB.out (dn_below wB 1))
  have HF : Hid (Fm w2 g mb bb a cap N (n + 1) l (fun j => if j = (x, y, z) then (t : Int) else top j) f ∧ Ch w w2 (fun b => b = mb)) := Lib.hid (crown_left H.out HBD.out hgr2 ht hk ⟨_, hown2, crown_map hD hk hown.isMap⟩)
  clear hgr2 hown2 hown hD c0 hbA ho h H HB HBD zero hkey
  cases o
  · go_wp2
    go_ret
    refine ⟨?_, HF.out⟩
    rw [← hco]; rfl
  · go_wp2
    go_ret
    refine ⟨?_, HF.out⟩
    rw [← hco]; rfl
end Go.Proofs.YtedncnaeojomcaaDoor
