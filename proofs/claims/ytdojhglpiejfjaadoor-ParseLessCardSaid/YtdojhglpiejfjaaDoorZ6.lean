/- A draw changes no memory. A forest in memory; crown: its contract. Records in memory; a forest's sides in memory. match.word: its contract; numbers of eight bytes, the lowest first. Bits in bytes, as lists. -/
import Derived.Test.YtdojhglpiejfjaaDoorZ5
import Derived.StillTailTactics
import Derived.Deep.QuietTactic
import Derived.BigQuiet
import Derived.Test.YtdojhglpiejfjaaDoorProg
import Derived.Lib.EndianBits
set_option linter.unusedSimpArgs false
set_option linter.unusedVariables false
section
namespace Go.Proofs.YtdojhglpiejfjaaDoor
open Go.RowKit
theorem dn_below (w : World) (n : Nat) : Below w.heap.size w (w.drewN n) := ⟨rfl, rfl, rfl, Nat.le_refl _, fun _ _ => rfl⟩
end Go.Proofs.YtdojhglpiejfjaaDoor
end

section
namespace Go.Proofs.YtdojhglpiejfjaaDoor
open Go.RowKit Go.Maps

/-- A forest in memory: its struct at g, its map at mb, its places' sides at bb. -/
structure Fm (w : World) (g mb bb : Nat) (a : Option Addr) (cap N n : Nat) (l : List UInt8) (top : Nat × Nat × Nat → Int) (f : Nat → Bool → Int) : Prop where
  row : w.heap[g]? = some (.cells #[.slice a N cap, .map (some mb), .slice (some ⟨bb, 0, none⟩) N N] 100 (0, 0))
  txt : Bs w a N cap l
  tops : Tops 21 .i32 w mb n (-1) top
  below : ∃ cs, w.heap[bb]? = some (.cells cs 104 (0, 0)) ∧ cs.size = 2 * N ∧ ∀ x, x < N → cs[2 * x]? = some (.int .i32 (f x false)) ∧ cs[2 * x + 1]? = some (.int .i32 (f x true))
  n1 : mb ≠ g
  n2 : bb ≠ g
  n3 : bb ≠ mb
  ta : ∀ ad, a = some ad → ad.block ≠ g ∧ ad.block ≠ mb ∧ ad.block ≠ bb
  tv : ∀ k, -1 ≤ top k ∧ top k < 1048576
theorem ch_grown {w w' : World} {b : Nat} (h : w.grownBy w' (some b)) : Ch w w' (fun k => k = b) := ⟨h.os, h.tape, h.output, h.size, fun k hk hn => h.block k hk (fun e => hn (Option.some.inj e))⟩
theorem Bs.kept {w w' : World} {T : Nat → Prop} {a : Option Addr} {len cap : Nat} {l : List UInt8} (h : Bs w a len cap l) (c : Ch w w' T) (hn : ∀ ad, a = some ad → ¬ T ad.block) : Bs w' a len cap l :=
  ⟨h.hlen, h.hle, h.hcap, h.hmax, h.hnil, fun i hi => by
    obtain ⟨b, off, e, hb, hc⟩ := h.at' i hi
    exact ⟨b, off, e, Nat.lt_of_lt_of_le hb c.size, by rw [World.cell?_of_block (w := w) (c.block b hb (hn _ e))]; exact hc⟩⟩
theorem crown_map {D : DataW Unit} {top : Nat × Nat × Nat → Int} {k : Nat × Nat × Nat} {t : Nat} {q : IntKind} {no : Int} (hD : ∀ k, K8 k → (Maps.has D (kl k) = true → D.atKey (kl k) (.lit (.int q 0)) = .lit (.int q (top k))) ∧ (Maps.has D (kl k) = false → top k = no)) (hk : K8 k) (hm : Maps.IsMap D) :
    ∀ j, K8 j → (Maps.has (D.put (kl k) (.lit (.int q (t : Int)))) (kl j) = true → (D.put (kl k) (.lit (.int q (t : Int)))).atKey (kl j) (.lit (.int q 0)) = .lit (.int q (if j = k then (t : Int) else top j))) ∧ (Maps.has (D.put (kl k) (.lit (.int q (t : Int)))) (kl j) = false → (if j = k then (t : Int) else top j) = no) := fun j hj => by
  by_cases e : j = k
  · subst e
    rw [if_pos rfl]
    refine ⟨fun _ => Maps.atKey_put_same hm (key_lit _ hj) _ _, fun h => ?_⟩
    rw [Maps.has_put_same hm (key_lit _ hj)] at h
    cases h
  · rw [if_neg e, Maps.has_put_other (key_ne hj hk e), Maps.atKey_put_other (key_ne hj hk e)]
    exact hD j hj
theorem crown_left {w wB w2 : World} {g mb bb : Nat} {a : Option Addr} {cap N n : Nat} {l : List UInt8} {top : Nat × Nat × Nat → Int} {f : Nat → Bool → Int} (h : Fm w g mb bb a cap N n l top f) (hb : Below w.heap.size w wB) (hg : wB.grownBy w2 (some mb)) {t : Nat} (ht : t < 1048576) {k : Nat × Nat × Nat} (hk : K8 k)
    (ho : Tops 21 .i32 w2 mb (n + 1) (-1) (fun j => if j = k then (t : Int) else top j)) : Fm w2 g mb bb a cap N (n + 1) l (fun j => if j = k then (t : Int) else top j) f ∧ Ch w w2 (fun b => b = mb) := by
  have hc : Ch w w2 (fun b => b = mb) := ((Ch.of_below (T := fun b => b = mb) hb).trans (ch_grown hg) (fun n hn => .inl hn))
  have lt : ∀ {i : Nat} {o : Obj}, w.heap[i]? = some o → i < w.heap.size := fun h => (Array.getElem?_eq_some_iff.1 h).1
  obtain ⟨cs, hcs, h1, h2⟩ := h.below
  exact ⟨⟨(hc.block g (lt h.row) (fun e => h.n1 e.symm)).trans h.row, h.txt.kept hc (fun ad e => (h.ta ad e).2.1), ho, ⟨cs, (hc.block bb (lt hcs) h.n3).trans hcs, h1, h2⟩, h.n1, h.n2, h.n3, h.ta, fun j => by
    split
    · omega
    · exact h.tv j⟩, hc⟩
set_option maxRecDepth 100000 in
set_option maxHeartbeats 4000000 in
theorem crown_any {w : World} {g mb bb : Nat} {a : Option Addr} {cap N n : Nat} {l : List UInt8} {top : Nat × Nat × Nat → Int} {f : Nat → Bool → Int} (h : Fm w g mb bb a cap N n l top f) (t : Nat) (ht : t < 1048576) (k : Nat × Nat × Nat) (hk : K8 k) (hn : n < 2000000) :
    Calls Tryd.prog 53 #[.pointer (some ⟨g, 0, none⟩), .int .i64 (t : Nat), kv k] w fun e w' => e = .returned (.int .i32 (top k)) ∧ Fm w' g mb bb a cap N (n + 1) l (fun j => if j = k then (t : Int) else top j) f ∧ Ch w w' (fun b => b = mb) := by
  obtain ⟨D, hown, hD⟩ := h.tops
  have c0 : w.cell? ⟨g, 1, none⟩ = some (.map (some mb)) := by rw [cell_of_row _ _ _ _ _ (0, 0) h.row]; rfl
  have hkey := key_is k hk
  have zero : ∀ w : World, (zeroValue 21).run Tryd.prog w = .ok (.int .i32 0) w := fun w => by kernel_rfl
  have hg := (Array.getElem?_eq_some_iff.1 h.row).1
  have H := Lib.hid h
  obtain ⟨x, y, z⟩ := k
  obtain ⟨wA, hwA⟩ : ∃ wA, w.alloc (.cells #[.int .u8 (x : Int), .int .u8 (y : Int), .int .u8 (z : Int)] 102) = wA := ⟨_, rfl⟩
  have hbA : Below w.heap.size w wA := by rw [← hwA]; exact below_alloc _ _
  have hownA : wA.ownsMap Tryd.prog 102 (plainElem Tryd.prog 21) mb n D := by rw [← hwA]; exact hown.alloc _
  have cA : wA.cell? ⟨g, 1, none⟩ = some (.map (some mb)) := by rw [hbA.cell (p := ⟨g, 1, none⟩) hg]; exact c0
  obtain ⟨o, ho⟩ : ∃ o, Maps.has D (kl (x, y, z)) = o := ⟨_, rfl⟩
  obtain ⟨c, hc, hco⟩ : ∃ c : Int, D.atKey (kl (x, y, z)) (.lit (.int .i32 0)) = .lit (.int .i32 c) ∧ (if o then c else -1) = top (x, y, z) := by
    cases o
    · exact ⟨0, Maps.atKey_of_not_has ho _, ((hD _ hk).2 ho).symm⟩
    · exact ⟨_, (hD _ hk).1 ho, rfl⟩
  have hlk : ∀ m, (Instr.lookup 97 (.map (some mb)) (kv (x, y, z)) true).run Tryd.prog (wA.drewN m) = .ok (.tuple #[.int .i32 c, .bool o]) (wA.drewN m) := fun m => by
    have hm : (wA.drewN m).ownsMap Tryd.prog 102 (plainElem Tryd.prog 21) mb n D := hownA
    obtain ⟨v, ps, hlk, hv⟩ := hm.look_ok key_law Tryd.underlying97 (zero _) (plainElem_int Tryd.underlying21 (by decide)) hkey
    obtain ⟨c', rfl, e1, _⟩ := plainElem_int_inv Tryd.underlying21 hv
    rw [hc] at e1
    simp only [Prod.mk.injEq, DataW.lit.injEq, Lit.int.injEq, true_and] at e1
    rw [hlk, ho, e1.1]
  have hbox : wA.heap[w.heap.size]? = some (.cells #[.int .u8 (x : Int), .int .u8 (y : Int), .int .u8 (z : Int)] 102 (0, 0)) := by rw [← hwA]; exact heap_alloc_last w _
  have hload : ∀ m, (loadVar 102 ⟨w.heap.size, 0, none⟩).run Tryd.prog (wA.drewN m) = .ok (.agg #[.int .u8 (x : Int), .int .u8 (y : Int), .int .u8 (z : Int)]) (wA.drewN m) := fun m =>
    run_loadVar_row (P := Tryd.prog) (wA.drewN m) w.heap.size 102 102 _ (0, 0) _ hbox Tryd.underlying102 rfl (by kernel_rfl)
  have b0 : wA.cell? ⟨w.heap.size, 0, none⟩ = some (.int .u8 (x : Int)) := by rw [cell_of_row _ _ _ _ _ (0, 0) hbox]; rfl
  have b1 : wA.cell? ⟨w.heap.size, 1, none⟩ = some (.int .u8 (y : Int)) := by rw [cell_of_row _ _ _ _ _ (0, 0) hbox]; rfl
  have b2 : wA.cell? ⟨w.heap.size, 2, none⟩ = some (.int .u8 (z : Int)) := by rw [cell_of_row _ _ _ _ _ (0, 0) hbox]; rfl
  clear hc
  have HUP : Hid (∀ m, ∃ w2, (Instr.mapUpdate 97 (.map (some mb)) (kv (x, y, z)) (.int .i32 (t : Int))).run Tryd.prog ((wA.drewN m).drew) = .ok () w2 ∧ w2.ownsMap Tryd.prog 102 (plainElem Tryd.prog 21) mb (n + 1) (D.put (kl (x, y, z)) (.lit (.int .i32 (t : Int)))) ∧ ((wA.drewN m).drew).grownBy w2 (some mb)) := Lib.hid (fun m =>
    (show ((wA.drewN m).drew).ownsMap Tryd.prog 102 (plainElem Tryd.prog 21) mb n D from hownA).update key_law Tryd.underlying97 (by unfold maxLen; omega) hkey (plainElem_int (H := Unit) Tryd.underlying21 (a := (t : Int)) (by simp [Lit.wf, IntKind.min, IntKind.max, IntKind.signed, IntKind.bits]; omega)))
  unfold kv at hlk HUP ⊢
  dsimp only at hlk HUP ⊢
  go_enter Tryd.func53, Tryd.ntmps53
  go_wp2_with fail
  go_quiet (fail)
  rename_i nq
  have HB : Hid (Below w.heap.size w (wA.drewN nq)) := Lib.hid (below_then hbA (dn_below wA nq))
  obtain ⟨w2, hup, hown2, hgr2⟩ := HUP.out nq
  have cB : (wA.drewN nq).cell? ⟨g, 1, none⟩ = some (.map (some mb)) := cA
  have e0 : (wA.drewN nq).cell? ⟨w.heap.size, 0, none⟩ = some (.int .u8 (x : Int)) := b0
  have e1 : (wA.drewN nq).cell? ⟨w.heap.size, 1, none⟩ = some (.int .u8 (y : Int)) := b1
  have e2 : (wA.drewN nq).cell? ⟨w.heap.size, 2, none⟩ = some (.int .u8 (z : Int)) := b2
  have hwrap : IntKind.i32.wrap (t : Int) = (t : Int) := by simp only [IntKind.wrap, IntKind.signed, IntKind.bits]; first | omega | (simp; omega)
  clear hlk hload HUP b0 b1 b2 cA hbox hownA hwA
  revert cB e0 e1 e2 hup hgr2 HB
  generalize World.drewN wA nq = wB
  intro HB hup hgr2 cB e0 e1 e2
  go_wp2_with fail
  go_still_tail 7, (by kernel_rfl)
  change wpList _ _ _ _ _ wB.drew
  have HBD : Hid (Below w.heap.size w wB.drew) := Lib.hid (below_then HB.out (dn_below wB 1))
  have HF : Hid (Fm w2 g mb bb a cap N (n + 1) l (fun j => if j = (x, y, z) then (t : Int) else top j) f ∧ Ch w w2 (fun b => b = mb)) := Lib.hid (crown_left H.out HBD.out hgr2 ht hk ⟨_, hown2, crown_map hD hk hown.isMap⟩)
  clear hgr2 hown2 hown hD c0 hbA ho h H HB HBD zero hkey
  cases o
  · go_wp2
    go_ret
    refine ⟨?_, HF.out⟩
    rw [← hco]; rfl
  · go_wp2
    go_ret
    refine ⟨?_, HF.out⟩
    rw [← hco]; rfl
end Go.Proofs.YtdojhglpiejfjaaDoor
end

section
namespace Go.Proofs.YtdojhglpiejfjaaDoor
open Go.RowKit Go.Maps

/-- Records as cells. -/
def rvs (R : List (Nat × Nat)) : List Value := R.flatMap fun q => [.int .u16 (q.1 : Int), .int .u16 (q.2 : Int)]
theorem rvs_length (R : List (Nat × Nat)) : (rvs R).length = R.length * 2 := by
  induction R with
  | nil => rfl
  | cons q R ih => simp only [rvs, List.flatMap_cons, List.length_append, List.length_cons, List.length_nil] at *; omega
theorem rvs_append (R S : List (Nat × Nat)) : rvs (R ++ S) = rvs R ++ rvs S := by simp [rvs]
theorem rvs_one (R : List (Nat × Nat)) : ∀ u ∈ rvs R, u.oneCell' = true := by
  intro u hu
  simp only [rvs, List.mem_flatMap] at hu
  obtain ⟨q, _, hq⟩ := hu
  simp at hq
  rcases hq with rfl | rfl <;> rfl
theorem rvs_get : ∀ (R : List (Nat × Nat)) (i : Nat), i < R.length → (rvs R)[i * 2]? = some (.int .u16 ((R.getD i (0, 0)).1 : Int)) ∧ (rvs R)[i * 2 + 1]? = some (.int .u16 ((R.getD i (0, 0)).2 : Int))
  | [], i, h => by simp at h
  | q :: R, i, h => by
    have e : rvs (q :: R) = .int .u16 (q.1 : Int) :: .int .u16 (q.2 : Int) :: rvs R := rfl
    rw [e]
    cases i with
    | zero => exact ⟨rfl, rfl⟩
    | succ i =>
      have ih := rvs_get R i (by simpa using h)
      rw [show (i + 1) * 2 = i * 2 + 1 + 1 by omega]
      exact ⟨ih.1, ih.2⟩
theorem tyRec : RowTy Tryd.prog 76 108 (.agg #[.int .u16 0, .int .u16 0]) 2 4 := ⟨Tryd.underlying76, by kernel_rfl, rfl, by omega⟩
theorem src_rec (w : World) (q : Nat × Nat) : SrcRow (w.alloc (.cells #[.int .u16 (q.1 : Int), .int .u16 (q.2 : Int)] 108)) (some ⟨w.heap.size, 0, none⟩) 1 1 (rvs [q]) 2 :=
  src_new w _ _ 1 1 2 rfl (rvs_one [q])
section
variable {w w' : World} {g mb bb : Nat} {a : Option Addr} {cap N n : Nat} {l : List UInt8} {top : Nat × Nat × Nat → Int} {f : Nat → Bool → Int}
/-- Where a place's side lies. -/
def sd (x : Nat) (c : Bool) : Nat := 2 * x + (if c then 1 else 0)
theorem Fm.cell (h : Fm w g mb bb a cap N n l top f) (x : Nat) (c : Bool) (hx : x < N) : w.cell? ⟨bb, sd x c, none⟩ = some (.int .i32 (f x c)) := by
  obtain ⟨cs, hcs, _, h2⟩ := h.below
  rw [cell_of_row _ _ _ _ _ (0, 0) hcs]
  cases c
  · exact (h2 x hx).1
  · exact (h2 x hx).2
theorem Fm.free (h : Fm w g mb bb a cap N n l top f) (o : Nat) : w.frozen? ⟨bb, o, none⟩ = false := by
  obtain ⟨cs, hcs, _, _⟩ := h.below
  exact frozen_of_row _ _ _ _ _ hcs
theorem Fm.lt (h : Fm w g mb bb a cap N n l top f) : g < w.heap.size ∧ bb < w.heap.size ∧ mb < w.heap.size := by
  obtain ⟨cs, hcs, _, _⟩ := h.below
  obtain ⟨D, ho, _⟩ := h.tops
  exact ⟨(Array.getElem?_eq_some_iff.1 h.row).1, (Array.getElem?_eq_some_iff.1 hcs).1, ho.lt⟩
theorem Tops.kept {e : TypeId} {q : IntKind} {T : Nat → Prop} {b : Nat} {no : Int} (h : Tops e q w b n no top) (c : Ch w w' T) (hn : ¬ T b) : Tops e q w' b n no top := by
  obtain ⟨D, ⟨es, clock, hb, F, hs, hD⟩, h2⟩ := h
  exact ⟨D, ⟨es, clock, (c.block b (Array.getElem?_eq_some_iff.1 hb).1 hn).trans hb, F, hs, hD⟩, h2⟩
theorem Fm.kept {T : Nat → Prop} (h : Fm w g mb bb a cap N n l top f) (c : Ch w w' T) (h1 : ¬ T g) (h2 : ¬ T mb) (h3 : ¬ T bb) (h4 : ∀ ad, a = some ad → ¬ T ad.block) : Fm w' g mb bb a cap N n l top f := by
  obtain ⟨cs, hcs, k1, k2⟩ := h.below
  exact ⟨(c.block g h.lt.1 h1).trans h.row, h.txt.kept c h4, h.tops.kept c h2, ⟨cs, (c.block bb h.lt.2.1 h3).trans hcs, k1, k2⟩, h.n1, h.n2, h.n3, h.ta, h.tv⟩
theorem Fm.set (h : Fm w g mb bb a cap N n l top f) (x : Nat) (c : Bool) (hx : x < N) (v : Int) : Fm (w.setCell ⟨bb, sd x c, none⟩ (.int .i32 v)) g mb bb a cap N n l top (Lz.upd f x c v) ∧ Ch w (w.setCell ⟨bb, sd x c, none⟩ (.int .i32 v)) (fun b => b = bb) := by
  have hc : Ch w (w.setCell ⟨bb, sd x c, none⟩ (.int .i32 v)) (fun b => b = bb) := (Ch.refl w (fun b => b = bb)).set (.inl rfl) _
  obtain ⟨cs, hcs, k1, k2⟩ := h.below
  refine ⟨⟨(hc.block g h.lt.1 (fun e => h.n2 e.symm)).trans h.row, h.txt.kept hc (fun ad e => (h.ta ad e).2.2), h.tops.kept hc (fun e => h.n3 e.symm), ⟨cs.setIfInBounds (sd x c) (.int .i32 v), heap_setCell_same _ _ _ _ _ _ hcs, by simp [k1], fun y hy => ?_⟩, h.n1, h.n2, h.n3, h.ta, h.tv⟩, hc⟩
  have key : ∀ d : Bool, (cs.setIfInBounds (sd x c) (.int .i32 v))[sd y d]? = some (.int .i32 (Lz.upd f x c v y d)) := fun d => by
    by_cases e : y = x ∧ d = c
    · obtain ⟨rfl, rfl⟩ := e
      rw [Lz.upd_self, Array.getElem?_setIfInBounds_self_of_lt]
      rw [k1]
      unfold sd
      cases d <;> simp <;> omega
    · rw [Lz.upd_other _ _ e, Array.getElem?_setIfInBounds_ne]
      · cases d
        · exact (k2 y hy).1
        · exact (k2 y hy).2
      · intro he
        apply e
        unfold sd at he
        cases c <;> cases d <;> simp at he ⊢ <;> omega
  exact ⟨key false, key true⟩
end
end Go.Proofs.YtdojhglpiejfjaaDoor
end

section
namespace Go.Proofs.YtdojhglpiejfjaaDoor
open Go.RowKit
namespace Lz
/-- The number of k bytes from a place on, the lowest first. -/
def wd (b : Nat → Nat) (x : Nat) : Nat → Nat
  | 0 => 0
  | k + 1 => b x + 256 * wd b (x + 1) k
theorem wd_lt {b : Nat → Nat} (hb : ∀ i, b i < 256) : ∀ (k x : Nat), wd b x k < 256 ^ k
  | 0, _ => by simp [wd]
  | k + 1, x => by
    have h1 := hb x
    have h2 := wd_lt hb k (x + 1)
    unfold wd
    rw [Nat.pow_succ]
    omega
theorem wd_mod {b : Nat → Nat} (hb : ∀ i, b i < 256) : ∀ (j k x : Nat), j ≤ k → wd b x k % 256 ^ j = wd b x j
  | 0, k, x, _ => by simp [wd, Nat.mod_one]
  | j + 1, 0, x, h => by omega
  | j + 1, k + 1, x, h => by
    have ih := wd_mod hb j k (x + 1) (by omega)
    have h1 := hb x
    have h2 := wd_lt hb j (x + 1)
    unfold wd
    rw [Nat.pow_succ, ← ih, Nat.mul_comm (256 ^ j) 256, Nat.mod_mul]
    have e1 : (b x + 256 * wd b (x + 1) k) % 256 = b x := by omega
    have e2 : (b x + 256 * wd b (x + 1) k) / 256 = wd b (x + 1) k := by omega
    rw [e1, e2]
theorem wd_inj {b : Nat → Nat} (hb : ∀ i, b i < 256) : ∀ (k x y : Nat), wd b x k = wd b y k ↔ ∀ i, i < k → b (x + i) = b (y + i)
  | 0, x, y => by simp [wd]
  | k + 1, x, y => by
    have ih := wd_inj hb k (x + 1) (y + 1)
    have h1 := hb x
    have h2 := hb y
    unfold wd
    constructor
    · intro h
      have e1 : b x = b y := by omega
      have e2 := ih.1 (by omega)
      intro i hi
      cases i with
      | zero => exact e1
      | succ i =>
        have := e2 i (by omega)
        rwa [show x + 1 + i = x + (i + 1) by omega, show y + 1 + i = y + (i + 1) by omega] at this
    · intro h
      have e1 : b x = b y := h 0 (by omega)
      have e2 := ih.2 (fun i hi => by
        have := h (i + 1) (by omega)
        rwa [show x + 1 + i = x + (i + 1) by omega, show y + 1 + i = y + (i + 1) by omega])
      omega
/-- The lowest set bit tells how many bytes are alike. -/
theorem wd_tz {b : Nat → Nat} (hb : ∀ i, b i < 256) (x y k z : Nat) (h1 : (wd b x k ^^^ wd b y k) % 2 ^ z = 0) (h2 : (wd b x k ^^^ wd b y k) % 2 ^ (z + 1) ≠ 0) (hz : z < 8 * k) :
    (∀ i, i < z / 8 → b (x + i) = b (y + i)) ∧ b (x + z / 8) ≠ b (y + z / 8) := by
  have e256 : ∀ j, 256 ^ j = 2 ^ (8 * j) := fun j => by rw [Nat.pow_mul]
  have hd : ∀ j, j ≤ k → ((wd b x k ^^^ wd b y k) % 2 ^ (8 * j) = 0 ↔ ∀ i, i < j → b (x + i) = b (y + i)) := fun j hj => by
    rw [Nat.xor_mod_two_pow, ← e256, wd_mod hb j k x hj, wd_mod hb j k y hj, ← wd_inj hb]
    constructor
    · intro h
      have h3 : wd b x j ^^^ (wd b x j ^^^ wd b y j) = wd b x j ^^^ 0 := by rw [h]
      rw [← Nat.xor_assoc, Nat.xor_self, Nat.zero_xor, Nat.xor_zero] at h3
      exact h3.symm
    · intro h; rw [h, Nat.xor_self]
  have hle : ∀ {n a c : Nat}, a ≤ c → n % 2 ^ c = 0 → n % 2 ^ a = 0 := fun {n a c} hac h =>
    Nat.mod_eq_zero_of_dvd (Nat.dvd_trans (Nat.pow_dvd_pow 2 hac) (Nat.dvd_of_mod_eq_zero h))
  have a1 := (hd (z / 8) (by omega)).1 (hle (by omega) h1)
  refine ⟨a1, fun e => h2 (hle (a := z + 1) (c := 8 * (z / 8 + 1)) (by omega) ((hd (z / 8 + 1) (by omega)).2 (fun i hi => ?_)))⟩
  by_cases h : i < z / 8
  · exact a1 i h
  · obtain rfl : i = z / 8 := by omega
    exact e
end Lz
set_option maxHeartbeats 8000000 in
set_option maxRecDepth 100000 in
theorem word_any (a : Option Addr) (len cap : Nat) (l : List UInt8) (w : World) (h : Bs w a len cap l) (h8 : 8 ≤ len) :
    Calls Tryd.prog 60 #[.slice a len cap] w fun e w' => e = .returned (.int .u64 (Lz.wd (gb l) 0 8 : Nat)) ∧ ∃ n, w' = w.drewN n := by
  obtain ⟨b, off, rfl, _, c0⟩ := h.at' 0 (by omega)
  have hc : ∀ i, i < len → w.cell? ⟨b, off + i, none⟩ = some (.int .u8 (gb l i)) := fun i hi => by
    obtain ⟨b', off', e1, _, c1⟩ := h.at' i hi
    simp only [Option.some.injEq, Addr.mk.injEq, and_true] at e1
    obtain ⟨rfl, rfl⟩ := e1
    exact c1
  have c1 := hc 1 (by omega)
  have c2 := hc 2 (by omega)
  have c3 := hc 3 (by omega)
  have c4 := hc 4 (by omega)
  have c5 := hc 5 (by omega)
  have c6 := hc 6 (by omega)
  have c7 := hc 7 (by omega)
  rw [Nat.add_zero] at c0
  have q0 : (0 : Int) < (len : Int) := by omega
  have q1 : (1 : Int) < (len : Int) := by omega
  have q2 : (2 : Int) < (len : Int) := by omega
  have q3 : (3 : Int) < (len : Int) := by omega
  have q4 : (4 : Int) < (len : Int) := by omega
  have q5 : (5 : Int) < (len : Int) := by omega
  have q6 : (6 : Int) < (len : Int) := by omega
  have q7 : (7 : Int) < (len : Int) := by omega
  have h0 := gb_lt l 0
  have h1 := gb_lt l 1
  have h2 := gb_lt l 2
  have h3 := gb_lt l 3
  have h4 := gb_lt l 4
  have h5 := gb_lt l 5
  have h6 := gb_lt l 6
  have h7 := gb_lt l 7
  have hv : Hid (((Lz.wd (gb l) 0 8 : Nat) : Int) = (gb l 0 : Int) + (gb l 1 : Int) * 256 + (gb l 2 : Int) * 65536 + (gb l 3 : Int) * 16777216 + (gb l 4 : Int) * 4294967296 + (gb l 5 : Int) * 1099511627776 + (gb l 6 : Int) * 281474976710656 + (gb l 7 : Int) * 72057594037927936) := Lib.hid (by
    simp only [Lz.wd, Nat.zero_add, Nat.reduceAdd]
    omega)
  clear h hc h8
  generalize gb l 0 = b0 at *
  generalize gb l 1 = b1 at *
  generalize gb l 2 = b2 at *
  generalize gb l 3 = b3 at *
  generalize gb l 4 = b4 at *
  generalize gb l 5 = b5 at *
  generalize gb l 6 = b6 at *
  generalize gb l 7 = b7 at *
  generalize Lz.wd (gb l) 0 8 = W at *
  go_enter Tryd.func60, Tryd.ntmps60
  go_wp2
  go_quiet (fail)
  go_wp2
  go_ret
  refine ⟨?_, _, rfl⟩
  simp (disch := omega) only [u64_wrap_id, u64_or8, u64_or16, u64_or24, u64_or32, u64_or40, u64_or48, u64_or56]
  rw [hv.out]
  rfl
end Go.Proofs.YtdojhglpiejfjaaDoor
end

section
namespace Go.Proofs.YtdojhglpiejfjaaDoor
open Go.RowKit

theorem i64_wrap_small (n : Nat) (h : n < 9223372036854775808) : IntKind.i64.wrap (n : Int) = n := IntWalk.i64_in _ ⟨by omega, by omega⟩
theorem ofInt_64 (a : Nat) (ha : a < 9223372036854775808) : (BitVec.ofInt 64 (a : Int)).toNat = a := by
  rw [BitVec.ofInt_natCast, BitVec.toNat_ofNat]; exact Nat.mod_eq_of_lt (by omega)
theorem i64_and_nat (a b : Nat) (ha : a < 9223372036854775808) (hb : b < 9223372036854775808) : bits .and .i64 (a : Int) (b : Int) = ((a &&& b : Nat) : Int) := by
  have hx : a &&& b < 2 ^ 63 := Nat.and_lt_two_pow _ (by omega)
  show IntKind.i64.wrap ((BitVec.ofInt 64 (a : Int) &&& BitVec.ofInt 64 (b : Int)).toNat : Int) = _
  rw [BitVec.toNat_and, ofInt_64 a ha, ofInt_64 b hb, i64_wrap_small _ (by omega)]
theorem i64_or_nat (a b : Nat) (ha : a < 9223372036854775808) (hb : b < 9223372036854775808) : bits .or .i64 (a : Int) (b : Int) = ((a ||| b : Nat) : Int) := by
  have hx : a ||| b < 2 ^ 63 := Nat.or_lt_two_pow (by omega) (by omega)
  show IntKind.i64.wrap ((BitVec.ofInt 64 (a : Int) ||| BitVec.ofInt 64 (b : Int)).toNat : Int) = _
  rw [BitVec.toNat_or, ofInt_64 a ha, ofInt_64 b hb, i64_wrap_small _ (by omega)]
theorem i64_and_neg7 (n : Nat) (h : n < 9223372036854775808) : bits .and .i64 (-(n : Int)) 7 = (((8 - n % 8) % 8 : Nat) : Int) := by
  show IntKind.i64.wrap ((BitVec.ofInt 64 (-(n : Int)) &&& BitVec.ofInt 64 ((7 : Nat) : Int)).toNat : Int) = _
  rw [BitVec.toNat_and, ofInt_64 7 (by omega)]
  have e : (BitVec.ofInt 64 (-(n : Int))).toNat % 8 = (8 - n % 8) % 8 := by
    rw [BitVec.toNat_ofInt]; omega
  have e2 := Nat.and_two_pow_sub_one_eq_mod ((BitVec.ofInt 64 (-(n : Int))).toNat) 3
  simp only [Nat.reducePow, Nat.reduceSub] at e2
  rw [e2, e, i64_wrap_small _ (by omega)]

namespace Bt
theorem pow_cast (n : Nat) : (2 : Int) ^ n = ((2 ^ n : Nat) : Int) := by simp
theorem pow_le (n m : Nat) (h : n ≤ m) : 2 ^ n ≤ 2 ^ m := Nat.pow_le_pow_right (by omega) h
theorem mask_wrap (n : Nat) (h : n ≤ 32) : wrap64 (wrap64 (2 ^ n) - 1) = ((2 ^ n - 1 : Nat) : Int) := by
  have h1 := pow_le n 32 h
  have h2 : 0 < 2 ^ n := Nat.pow_pos (by omega)
  rw [pow_cast]
  generalize 2 ^ n = x at *
  simp only [Nat.reducePow] at h1
  unfold wrap64
  omega
theorem wrapEq (x : Int) : IntKind.i64.wrap x = wrap64 x := by unfold wrap64; exact IntKind.wrap_i64 x
theorem part_val (n sh s : Nat) (hn : n < 4294967296) (hsh : sh ≤ 64) (hs : s ≤ 32) :
    bits .and .i64 ((n : Int) / 2 ^ min sh 64) (IntKind.i64.wrap (IntKind.i64.wrap (2 ^ s) - 1)) = ((n >>> sh &&& (2 ^ s - 1) : Nat) : Int) := by
  rw [wrapEq, wrapEq, mask_wrap s hs, show min sh 64 = sh by omega]
  have e : (n : Int) / 2 ^ sh = ((n >>> sh : Nat) : Int) := by
    rw [Nat.shiftRight_eq_div_pow, pow_cast]; omega
  have h1 : n >>> sh ≤ n := by rw [Nat.shiftRight_eq_div_pow]; exact Nat.div_le_self _ _
  have h2 := pow_le s 32 hs
  rw [e]
  generalize 2 ^ s = x at *
  simp only [Nat.reducePow] at h2
  exact i64_and_nat _ _ (by omega) (by omega)
theorem shl_lt (p s sh m : Nat) (hp : p < 2 ^ s) (hs : sh + s ≤ m) : p <<< sh < 2 ^ m := by
  rw [Nat.shiftLeft_eq]
  have h1 : p * 2 ^ sh < 2 ^ s * 2 ^ sh := Nat.mul_lt_mul_of_pos_right hp (Nat.pow_pos (by omega))
  rw [← Nat.pow_add] at h1
  exact Nat.lt_of_lt_of_le h1 (pow_le _ _ (by omega))
theorem or_val (x p s sh : Nat) (hx : x < 256) (hp : p < 2 ^ s) (hs : sh + s ≤ 8) :
    bits .or .u8 (x : Int) (IntKind.u8.wrap (IntKind.i64.wrap ((p : Int) * 2 ^ min sh 64))) = ((x ||| p <<< sh : Nat) : Int) ∧ x ||| p <<< sh < 256 := by
  have h1 := shl_lt p s sh 8 hp hs
  rw [show min sh 64 = sh by omega, pow_cast, show (p : Int) * ((2 ^ sh : Nat) : Int) = ((p <<< sh : Nat) : Int) by rw [Nat.shiftLeft_eq]; simp]
  generalize p <<< sh = y at *
  simp only [Nat.reducePow] at h1
  rw [IntWalk.i64_in _ ⟨by omega, by omega⟩, IntWalk.u8_in _ ⟨by omega, by omega⟩]
  exact ⟨u8_or_nat x y hx h1, Nat.or_lt_two_pow (n := 8) hx h1⟩
/-- A number's bits in an order. -/
def dg (h : Bool) (n c : Nat) : List Bool := (List.range c).map fun i => n.testBit (if h then c - 1 - i else i)
/-- The number of bits, the first one the highest. -/
def numH (l : List Bool) : Nat := l.foldl (fun a b => 2 * a + b.toNat) 0
/-- The number of bits in an order. -/
def num (h : Bool) (l : List Bool) : Nat := numH (if h then l else l.reverse)
/-- Byte k of bits, what is left filled. -/
def pk (h f : Bool) (l : List Bool) (k : Nat) : Nat := num h ((List.range 8).map fun i => l.getD (8 * k + i) f)
/-- Bits as bytes, what is left filled. -/
def packs (h f : Bool) (l : List Bool) : List UInt8 := (List.range ((l.length + 7) / 8)).map fun k => UInt8.ofNat (pk h f l k)
/-- Bytes as bits. -/
def rbits (h : Bool) (l : List UInt8) : List Bool := l.flatMap fun x => dg h x.toNat 8

theorem dg_length (h : Bool) (n c : Nat) : (dg h n c).length = c := by simp [dg]
theorem dg_getD (h : Bool) (n c i : Nat) (f : Bool) (hi : i < c) : (dg h n c).getD i f = n.testBit (if h then c - 1 - i else i) := by
  simp [dg, List.getD, List.getElem?_range hi]
theorem numH_snoc (l : List Bool) (b : Bool) : numH (l ++ [b]) = 2 * numH l + b.toNat := by simp [numH]
theorem testBit_double (a : Nat) (b : Bool) (i : Nat) : (2 * a + b.toNat).testBit i = if i = 0 then b else a.testBit (i - 1) := by
  cases i with
  | zero => cases b <;> simp [Nat.testBit_zero] <;> omega
  | succ i =>
    rw [Nat.testBit_succ]
    have : (2 * a + b.toNat) / 2 = a := by cases b <;> simp <;> omega
    rw [this]; simp
theorem numH_testBit (l : List Bool) : ∀ i, (numH l).testBit i = (decide (i < l.length) && l.getD (l.length - 1 - i) false) := by
  suffices ∀ (r : List Bool) (i : Nat), (numH r.reverse).testBit i = (decide (i < r.reverse.length) && r.reverse.getD (r.reverse.length - 1 - i) false) by
    intro i
    have := this l.reverse i
    rwa [List.reverse_reverse] at this
  intro r
  induction r with
  | nil => intro i; simp [numH]
  | cons b r ih =>
    intro i
    rw [List.reverse_cons, numH_snoc, testBit_double]
    cases i with
    | zero => simp [List.getD]
    | succ i =>
      rw [if_neg (by omega), Nat.add_sub_cancel, ih i]
      simp only [List.length_append, List.length_reverse, List.length_cons, List.length_nil]
      by_cases hi : i < r.length
      · have e : r.length + (0 + 1) - 1 - (i + 1) = r.length - 1 - i := by omega
        rw [e]
        simp only [List.getD]
        rw [List.getElem?_append_left (by simp; omega)]
        simp [hi]
      · simp [hi]
theorem num_testBit (h : Bool) (l : List Bool) (i : Nat) : (num h l).testBit i = (decide (i < l.length) && l.getD (if h then l.length - 1 - i else i) false) := by
  cases h
  · simp only [num]
    rw [numH_testBit]
    by_cases hi : i < l.length
    · simp only [Bool.false_eq_true, if_false, List.length_reverse, hi, decide_true, Bool.true_and, List.getD]
      rw [List.getElem?_reverse (by omega)]
      congr 2
      omega
    · simp [hi]
  · simp only [num]
    rw [numH_testBit]
    simp
theorem num_lt (h : Bool) (l : List Bool) : num h l < 2 ^ l.length := by
  apply Nat.lt_pow_two_of_testBit
  intro i hi
  rw [num_testBit]
  simp; omega
theorem num_dg (h : Bool) (n c : Nat) (hn : n < 2 ^ c) : num h (dg h n c) = n := by
  apply Nat.eq_of_testBit_eq
  intro i
  rw [num_testBit, dg_length]
  by_cases hi : i < c
  · have e : (dg h n c).getD (if h then c - 1 - i else i) false = n.testBit i := by
      cases h
      · simp only [Bool.false_eq_true, if_false]; rw [dg_getD _ _ _ _ _ hi]; simp
      · simp only [if_true]; rw [dg_getD _ _ _ _ _ (by omega)]; simp only [if_true]; congr 1; omega
    rw [e]; simp [hi]
  · rw [Nat.testBit_lt_two_pow (Nat.lt_of_lt_of_le hn (Nat.pow_le_pow_right (by omega) (by omega)))]
    simp [hi]
theorem pk_lt (h f : Bool) (l : List Bool) (k : Nat) : pk h f l k < 256 := by
  have := num_lt h ((List.range 8).map fun i => l.getD (8 * k + i) f)
  simpa [pk] using this
theorem pk_testBit (h f : Bool) (l : List Bool) (k j : Nat) : (pk h f l k).testBit j = (decide (j < 8) && l.getD (8 * k + (if h then 7 - j else j)) f) := by
  unfold pk
  rw [num_testBit]
  simp only [List.length_map, List.length_range]
  by_cases hj : j < 8
  · have e : (if h = true then 8 - 1 - j else j) < 8 := by split <;> omega
    simp only [hj, decide_true, Bool.true_and, List.getD]
    rw [List.getElem?_map, List.getElem?_range e]
    simp
  · simp [hj]
theorem packs_length (h f : Bool) (l : List Bool) : (packs h f l).length = (l.length + 7) / 8 := by simp [packs]
theorem packs_get (h f : Bool) (l : List Bool) (k : Nat) (hk : k < (l.length + 7) / 8) : (packs h f l)[k]? = some (UInt8.ofNat (pk h f l k)) := by
  simp [packs, List.getElem?_range hk]
theorem gb_packs (h f : Bool) (l : List Bool) (k : Nat) (hk : k < (l.length + 7) / 8) : gb (packs h f l) k = pk h f l k := by
  have := pk_lt h f l k
  simp only [gb, List.getD, packs_get h f l k hk, Option.getD_some]
  simp; omega
theorem getD_app_left (l m : List Bool) (i : Nat) (f : Bool) (h : i < l.length) : (l ++ m).getD i f = l.getD i f := by
  simp only [List.getD]; rw [List.getElem?_append_left h]
theorem getD_app_right (l m : List Bool) (i : Nat) (f : Bool) (h : l.length ≤ i) : (l ++ m).getD i f = m.getD (i - l.length) f := by
  simp only [List.getD]; rw [List.getElem?_append_right h]
theorem getD_out (l : List Bool) (i : Nat) (f : Bool) (h : l.length ≤ i) : l.getD i f = f := by
  simp only [List.getD]; rw [List.getElem?_eq_none h]; rfl
/-- What a byte is added to. -/
def base (h : Bool) (m : List Bool) : List UInt8 := if m.length % 8 = 0 then packs h false m ++ [0] else packs h false m
theorem base_length (h : Bool) (m : List Bool) : (base h m).length = m.length / 8 + 1 := by
  unfold base; split <;> simp [packs_length] <;> omega
def shf (h : Bool) (size fro some : Nat) : Nat := if h then size - fro - some else fro
theorem pk_same (h : Bool) (m cs : List Bool) (k : Nat) (hk : 8 * k + 8 ≤ m.length) : pk h false (m ++ cs) k = pk h false m k := by
  apply Nat.eq_of_testBit_eq
  intro j
  rw [pk_testBit, pk_testBit]
  by_cases hj : j < 8
  · rw [getD_app_left _ _ _ _ (by split <;> omega)]
  · simp [hj]
theorem gb_base_last (h : Bool) (m : List Bool) : gb (base h m) (m.length / 8) = pk h false m (m.length / 8) := by
  unfold base
  split
  · rename_i h0
    have e : pk h false m (m.length / 8) = 0 := by
      apply Nat.eq_of_testBit_eq
      intro j
      rw [pk_testBit, getD_out _ _ _ (by omega)]; simp
    rw [e]
    simp only [gb, List.getD]
    rw [List.getElem?_append_right (by simp [packs_length]; omega)]
    have : m.length / 8 - (packs h false m).length = 0 := by simp [packs_length]; omega
    rw [this]; rfl
  · rw [gb_packs _ _ _ _ (by omega)]
theorem packs_step (h : Bool) (m cs : List Bool) (s : Nat) (hs : cs.length = s) (h1 : 1 ≤ s) (h8 : m.length % 8 + s ≤ 8) :
    packs h false (m ++ cs) = (base h m).set (m.length / 8) (UInt8.ofNat (gb (base h m) (m.length / 8) ||| num h cs <<< shf h 8 (m.length % 8) s)) := by
  have hlen : (m ++ cs).length = m.length + s := by simp [hs]
  apply List.ext_getElem?
  intro k
  rw [List.getElem?_set]
  by_cases hk : k < m.length / 8 + 1
  · rw [packs_get _ _ _ _ (by rw [hlen]; omega)]
    by_cases he : m.length / 8 = k
    · subst he
      rw [if_pos rfl, if_pos (by rw [base_length]; omega), gb_base_last]
      congr 2
      apply Nat.eq_of_testBit_eq
      intro j
      rw [Nat.testBit_or, pk_testBit, pk_testBit, Nat.testBit_shiftLeft, num_testBit, hs]
      by_cases hj : j < 8
      · cases h
        · simp only [Bool.false_eq_true, if_false, shf, hj, decide_true, Bool.true_and]
          by_cases ha : j < m.length % 8
          · rw [getD_app_left _ _ _ _ (by omega)]
            have : ¬ m.length % 8 ≤ j := by omega
            simp [this]
          · rw [getD_app_right _ _ _ _ (by omega), getD_out m _ _ (by omega)]
            have e : 8 * (m.length / 8) + j - m.length = j - m.length % 8 := by omega
            have : m.length % 8 ≤ j := by omega
            rw [e]
            by_cases hb : j - m.length % 8 < s
            · simp [this, hb]
            · rw [getD_out cs _ _ (by omega)]; simp
        · simp only [if_true, shf, hj, decide_true, Bool.true_and]
          by_cases ha : 7 - j < m.length % 8
          · rw [getD_app_left _ _ _ _ (by omega)]
            have : ¬ j - (8 - m.length % 8 - s) < s := by omega
            simp [this]
          · rw [getD_app_right _ _ _ _ (by omega), getD_out m _ _ (by omega)]
            have e : 8 * (m.length / 8) + (7 - j) - m.length = 7 - j - m.length % 8 := by omega
            rw [e]
            by_cases hb : 8 - m.length % 8 - s ≤ j
            · have hb2 : j - (8 - m.length % 8 - s) < s := by omega
              have e2 : s - 1 - (j - (8 - m.length % 8 - s)) = 7 - j - m.length % 8 := by omega
              rw [e2]; simp [hb, hb2]
            · rw [getD_out cs _ _ (by omega)]; simp [hb]
      · have e3 : ¬ (j - shf h 8 (m.length % 8) s < s) := by cases h <;> simp [shf] <;> omega
        simp [hj, e3]
    · rw [if_neg he]
      unfold base
      split
      · rw [List.getElem?_append_left (by rw [packs_length]; omega), packs_get _ _ _ _ (by omega), pk_same _ _ _ _ (by omega)]
      · rw [packs_get _ _ _ _ (by omega), pk_same _ _ _ _ (by omega)]
  · rw [if_neg (by omega), List.getElem?_eq_none (by rw [packs_length, hlen]; omega), List.getElem?_eq_none (by rw [base_length]; omega)]
/-- Some bits of a number. -/
theorem part_num (h : Bool) (n c d s : Nat) (hd : d + s ≤ c) : (n >>> shf h c d s) &&& (2 ^ s - 1) = num h (((dg h n c).drop d).take s) := by
  apply Nat.eq_of_testBit_eq
  intro i
  rw [Nat.testBit_and, Nat.testBit_shiftRight, Nat.testBit_two_pow_sub_one, num_testBit]
  have hl : (((dg h n c).drop d).take s).length = s := by simp [dg_length]; omega
  rw [hl]
  by_cases hi : i < s
  · have e : (((dg h n c).drop d).take s).getD (if h then s - 1 - i else i) false = n.testBit (shf h c d s + i) := by
      have hx : (if h then s - 1 - i else i) < s := by split <;> omega
      simp only [List.getD]
      rw [List.getElem?_take, if_pos hx, List.getElem?_drop]
      have := dg_getD h n c (d + (if h then s - 1 - i else i)) false (by omega)
      simp only [List.getD] at this
      rw [this]
      congr 1
      cases h <;> simp [shf] <;> omega
    rw [e]; simp [hi]
  · simp [hi]
theorem take_add (l : List Bool) (d s : Nat) : l.take (d + s) = l.take d ++ (l.drop d).take s := List.take_add
theorem fi_dg (h : Bool) (c : Nat) : dg h (if h then 2 ^ c - 1 else 0) c = List.replicate c h := by
  apply List.ext_getElem?
  intro i
  by_cases hi : i < c
  · have := dg_getD h (if h then 2 ^ c - 1 else 0) c i false hi
    simp only [dg, List.getElem?_map, List.getElem?_range hi, List.getElem?_replicate, hi, if_true, Option.map_some]
    cases h
    · simp
    · simp only [if_true]; rw [Nat.testBit_two_pow_sub_one]; simp; omega
  · rw [List.getElem?_eq_none (by rw [dg_length]; omega), List.getElem?_eq_none (by simp; omega)]
/-- The last byte is completed. -/
theorem packs_fill (h : Bool) (l : List Bool) (hl : 0 < l.length) :
    packs h h l = (packs h false l).set ((packs h false l).length - 1) (UInt8.ofNat (gb (packs h false l) ((packs h false l).length - 1) ||| (if h then 2 ^ ((8 - l.length % 8) % 8) - 1 else 0))) := by
  rw [packs_length]
  apply List.ext_getElem?
  intro k
  rw [List.getElem?_set, packs_length]
  by_cases hk : k < (l.length + 7) / 8
  · rw [packs_get _ _ _ _ hk, packs_get _ _ _ _ hk]
    by_cases he : (l.length + 7) / 8 - 1 = k
    · rw [if_pos he, if_pos (by omega), gb_packs _ _ _ _ (by omega), he]
      congr 2
      apply Nat.eq_of_testBit_eq
      intro j
      rw [Nat.testBit_or, pk_testBit, pk_testBit]
      cases h
      · simp
      · simp only [if_true, Nat.testBit_two_pow_sub_one]
        by_cases hj : j < 8
        · simp only [hj, decide_true, Bool.true_and]
          by_cases ha : 8 * k + (7 - j) < l.length
          · have e : ¬ j < (8 - l.length % 8) % 8 := by omega
            simp only [e, decide_false, Bool.or_false, List.getD]
            rw [List.getElem?_eq_getElem ha]; rfl
          · rw [getD_out _ _ _ (by omega)]
            have e : j < (8 - l.length % 8) % 8 := by omega
            simp [e]
        · have e : ¬ j < (8 - l.length % 8) % 8 := by omega
          simp [hj, e]
    · rw [if_neg he]
      congr 2
      apply Nat.eq_of_testBit_eq
      intro j
      rw [pk_testBit, pk_testBit]
      by_cases hj : j < 8
      · have ha : 8 * k + (if h then 7 - j else j) < l.length := by split <;> omega
        simp only [List.getD]
        rw [List.getElem?_eq_getElem ha]; rfl
      · simp [hj]
  · rw [List.getElem?_eq_none (by rw [packs_length]; omega)]
    split
    · rw [if_neg (by omega)]
    · rw [List.getElem?_eq_none (by rw [packs_length]; omega)]

theorem rbits_length (h : Bool) (l : List UInt8) : (rbits h l).length = 8 * l.length := by
  induction l with
  | nil => rfl
  | cons x l ih => simp only [rbits, List.flatMap_cons, List.length_append, dg_length, List.length_cons] at *; omega
theorem rbits_getD (h f : Bool) (l : List UInt8) : ∀ i, i < 8 * l.length → (rbits h l).getD i f = (gb l (i / 8)).testBit (if h then 7 - i % 8 else i % 8) := by
  induction l with
  | nil => intro i hi; simp at hi
  | cons x l ih =>
    intro i hi
    have e : rbits h (x :: l) = dg h x.toNat 8 ++ rbits h l := rfl
    rw [e]
    by_cases h8 : i < 8
    · rw [getD_app_left _ _ _ _ (by rw [dg_length]; omega), dg_getD _ _ _ _ _ h8]
      have e1 : i / 8 = 0 := by omega
      have e2 : i % 8 = i := by omega
      rw [e1, e2]; rfl
    · rw [getD_app_right _ _ _ _ (by rw [dg_length]; omega), dg_length, ih (i - 8) (by simp at hi; omega)]
      have e1 : i / 8 = (i - 8) / 8 + 1 := by omega
      have e2 : (i - 8) % 8 = i % 8 := by omega
      rw [e1, e2]; rfl
/-- Some bits of a byte. -/
theorem part_byte (h : Bool) (l : List UInt8) (p s : Nat) (hp : p % 8 + s ≤ 8) (hl : p + s ≤ 8 * l.length) (h1 : 1 ≤ s) :
    (gb l (p / 8) >>> shf h 8 (p % 8) s) &&& (2 ^ s - 1) = num h (((rbits h l).drop p).take s) := by
  apply Nat.eq_of_testBit_eq
  intro i
  rw [Nat.testBit_and, Nat.testBit_shiftRight, Nat.testBit_two_pow_sub_one, num_testBit]
  have hlen : (((rbits h l).drop p).take s).length = s := by simp [rbits_length]; omega
  rw [hlen]
  by_cases hi : i < s
  · have hx : (if h then s - 1 - i else i) < s := by split <;> omega
    have e : (((rbits h l).drop p).take s).getD (if h then s - 1 - i else i) false = (gb l (p / 8)).testBit (shf h 8 (p % 8) s + i) := by
      simp only [List.getD]
      rw [List.getElem?_take, if_pos hx, List.getElem?_drop]
      have := rbits_getD h false l (p + (if h then s - 1 - i else i)) (by omega)
      simp only [List.getD] at this
      rw [this]
      have e1 : (p + (if h then s - 1 - i else i)) / 8 = p / 8 := by omega
      have e2 : (p + (if h then s - 1 - i else i)) % 8 = p % 8 + (if h then s - 1 - i else i) := by omega
      rw [e1, e2]
      congr 1
      cases h <;> simp [shf] <;> omega
    rw [e]; simp [hi]
  · simp [hi]
/-- What is read of c bits behind d of them. -/
def tk (h : Bool) (l : List Bool) (c d : Nat) : Nat := num h (l.take d ++ List.replicate (c - d) false)
theorem tk_zero (h : Bool) (l : List Bool) (c : Nat) : tk h l c 0 = 0 := by
  apply Nat.eq_of_testBit_eq
  intro i
  rw [tk, num_testBit]
  have rep : ∀ k j, (List.replicate k false).getD j false = false := by
    intro k j; simp [List.getD, List.getElem?_replicate]; split <;> rfl
  simp only [List.take_zero, List.nil_append, rep]; simp
theorem tk_full (h : Bool) (l : List Bool) (c : Nat) : tk h l c c = num h (l.take c) := by simp [tk]
theorem tk_lt (h : Bool) (l : List Bool) (c d : Nat) (hd : d ≤ c) : tk h l c d < 2 ^ c := by
  refine Nat.lt_of_lt_of_le (num_lt h _) (Nat.pow_le_pow_right (by omega) ?_)
  simp; omega
theorem tk_step (h : Bool) (l : List Bool) (c d s : Nat) (hd : d + s ≤ c) (hl : c ≤ l.length) (h1 : 1 ≤ s) :
    tk h l c (d + s) = tk h l c d ||| num h ((l.drop d).take s) <<< shf h c d s := by
  apply Nat.eq_of_testBit_eq
  intro i
  rw [Nat.testBit_or, Nat.testBit_shiftLeft, tk, tk, num_testBit, num_testBit, num_testBit]
  have e1 : (l.take (d + s) ++ List.replicate (c - (d + s)) false).length = c := by simp; omega
  have e2 : (l.take d ++ List.replicate (c - d) false).length = c := by simp; omega
  have e3 : ((l.drop d).take s).length = s := by simp; omega
  have rep : ∀ k j, (List.replicate k false).getD j false = false := by
    intro k j; simp [List.getD, List.getElem?_replicate]; split <;> rfl
  have tg : ∀ m j, m ≤ l.length → (l.take m ++ List.replicate (c - m) false).getD j false = (decide (j < m) && l.getD j false) := by
    intro m j hm
    by_cases hj : j < m
    · rw [getD_app_left _ _ _ _ (by simp; omega)]
      simp [List.getD, List.getElem?_take, hj]
    · rw [getD_app_right _ _ _ _ (by simp; omega), rep]; simp [hj]
  have cg : ∀ j, ((l.drop d).take s).getD j false = (decide (j < s) && l.getD (d + j) false) := by
    intro j
    by_cases hj : j < s
    · simp [List.getD, List.getElem?_take, hj, List.getElem?_drop]
    · rw [getD_out _ _ _ (by simp; omega)]; simp [hj]
  rw [e1, e2, e3, tg _ _ (by omega), tg _ _ (by omega), cg]
  by_cases hi : i < c
  · cases h
    · simp only [Bool.false_eq_true, if_false, shf, hi, decide_true, Bool.true_and]
      by_cases a : i < d
      · have : ¬ d ≤ i := by omega
        have a2 : i < d + s := by omega
        simp [a, a2, this]
      · have a3 : d ≤ i := by omega
        by_cases b : i < d + s
        · have : i - d < s := by omega
          have e : d + (i - d) = i := by omega
          simp [a, b, a3, this, e]
        · have : ¬ i - d < s := by omega
          simp [a, b, this]
    · simp only [if_true, shf, hi, decide_true, Bool.true_and]
      by_cases a : c - 1 - i < d
      · have : ¬ i - (c - d - s) < s := by omega
        have a2 : c - 1 - i < d + s := by omega
        simp [a, a2, this]
      · by_cases b : c - 1 - i < d + s
        · have a3 : c - d - s ≤ i := by omega
          have a4 : i - (c - d - s) < s := by omega
          have a5 : s - 1 - (i - (c - d - s)) < s := by omega
          have e : d + (s - 1 - (i - (c - d - s))) = c - 1 - i := by omega
          simp [a, b, a3, a4, a5, e]
        · have : ¬ c - d - s ≤ i := by omega
          simp [a, b, this]
  · have e4 : ¬ (i - shf h c d s < s) := by cases h <;> simp [shf] <;> omega
    simp [hi, e4]
/-- What was written is there to be read, the last byte completed. -/
theorem rbits_packs (h f : Bool) (l : List Bool) : rbits h (packs h f l) = l ++ List.replicate ((8 - l.length % 8) % 8) f := by
  have hlen : (rbits h (packs h f l)).length = (l ++ List.replicate ((8 - l.length % 8) % 8) f).length := by
    rw [rbits_length, packs_length]; simp; omega
  apply List.ext_getElem?
  intro i
  by_cases hi : i < (rbits h (packs h f l)).length
  · have h1 : (rbits h (packs h f l)).getD i f = (l ++ List.replicate ((8 - l.length % 8) % 8) f).getD i f := by
      rw [rbits_length] at hi
      rw [rbits_getD _ _ _ _ hi]
      rw [packs_length] at hi
      rw [gb_packs _ _ _ _ (by omega), pk_testBit]
      have e : (if h then 7 - i % 8 else i % 8) < 8 := by split <;> omega
      have e2 : 8 * (i / 8) + (if h then 7 - (if h then 7 - i % 8 else i % 8) else (if h then 7 - i % 8 else i % 8)) = i := by cases h <;> simp <;> omega
      rw [e2]
      simp only [e, decide_true, Bool.true_and]
      by_cases hil : i < l.length
      · rw [getD_app_left _ _ _ _ hil]
      · rw [getD_app_right _ _ _ _ (by omega), getD_out _ _ _ (by omega)]
        simp only [List.getD, List.getElem?_replicate]
        split <;> rfl
    simp only [List.getD] at h1
    rw [List.getElem?_eq_getElem hi, List.getElem?_eq_getElem (by omega)] at h1 ⊢
    simpa using h1
  · rw [List.getElem?_eq_none (by omega), List.getElem?_eq_none (by omega)]
end Bt
end Go.Proofs.YtdojhglpiejfjaaDoor
end
