/- The document's reader: put. The document's reader: what is told of it; put when something is wrong; sum, whole, fixed. -/
import Derived.Test.YtfgpmccmalddjaaDoorZ24
set_option linter.unusedSimpArgs false
set_option linter.unusedVariables false
section
namespace Go.Proofs.YtfgpmccmalddjaaDoor
open Go.RowKit
attribute [local go_sem] Oper.semAt_some
set_option linter.unusedSimpArgs false
set_option linter.unusedVariables false

/-- What put leaves. -/
def RutPost (w : World) (D : Nat → Prop) (B gr : Nat) (a : Option Addr) (cap : Nat) (u : List Bool) (most : Nat) (r : Ip.Rs Unp) (e : Ending) (w' : World) : Prop :=
  e = .returned (.tuple #[]) ∧ Rq w' D B gr a cap u most r ∧ Ch w w' (fun k => ¬ D k)
section
variable {w : World} {D : Nat → Prop} {B gr : Nat} {a : Option Addr} {cap : Nat} {u : List Bool} {p : Nat} {most : Nat} {v : Value} {s : Unp}
/-- Its memory, when a token is put behind. -/
theorem Rn.put {sz n : Nat} {ts : List Tok} {t : Tok} {w2 w3 : World} {v5 : Value} (h : Rn w D B gr a cap u p 0 most sz ts v) (hal : Below (w.setCell ⟨gr, 4, none⟩ (.int .i64 ((sz : Int) + (n : Int)))).heap.size (w.setCell ⟨gr, 4, none⟩ (.int .i64 ((sz : Int) + (n : Int)))) w2) (cc : Ch w2 w3 (fun k => v.ownBlock = some k))
    (own5 : w3.ownsRow B 47 2 v5 (ts.length + 1) (tks (ts ++ [t]))) (ff : ∀ k, v5.ownBlock = some k → v.ownBlock = some k ∨ w2.heap.size ≤ k) (hn : 1 ≤ n) (hs : sz + n ≤ most) :
    w3.heap[gr]? = some (.cells #[.slice a u.length cap, .int .i64 (p : Nat), .int .i64 0, .int .i64 (most : Nat), .int .i64 ((sz : Int) + (n : Int)), v] 66 (0, 0)) ∧
    Rn (w3.setCell ⟨gr, 5, none⟩ v5) D B gr a cap u p 0 most (sz + n) (ts ++ [t]) v5 ∧ Ch w (w3.setCell ⟨gr, 5, none⟩ v5) (fun k => ¬ D k) := by
  have hgl := h.lt
  have c1 : Ch w (w.setCell ⟨gr, 4, none⟩ (.int .i64 ((sz : Int) + (n : Int)))) (fun k => k = gr) := (Ch.refl w (fun k => k = gr)).set (p := ⟨gr, 4, none⟩) (.inl rfl) _
  have hr1 := row_set h.row 4 (.int .i64 ((sz : Int) + (n : Int)))
  have e1 : ((sz + n : Nat) : Int) = (sz : Int) + (n : Int) := by omega
  have ht := h.ht
  have h1 := (h.turn (q := p) (sz' := sz + n) (bad' := 0) c1 (by rw [e1]; exact hr1) h.hp hs (by omega)).1
  have h2 := h1.mono hal
  have z1 : (w.setCell ⟨gr, 4, none⟩ (.int .i64 ((sz : Int) + (n : Int)))).heap.size = w.heap.size := by simp
  have hz2 := hal.size
  rw [z1] at hz2
  have r3 := (cc.block gr h2.lt (fun e => h2.vn e)).trans h2.row
  rw [e1] at r3
  have c3 : Ch w3 (w3.setCell ⟨gr, 5, none⟩ v5) (fun k => k = gr) := (Ch.refl w3 (fun k => k = gr)).set (p := ⟨gr, 5, none⟩) (.inl rfl) _
  have r4 := row_set r3 5 v5
  have c24 : Ch w2 (w3.setCell ⟨gr, 5, none⟩ v5) (fun k => v.ownBlock = some k ∨ k = gr) := (cc.wide (U := fun k => v.ownBlock = some k ∨ k = gr) (fun k hk => .inl (.inl hk))).trans c3 (fun k hk => .inl (.inr hk))
  have vn5 : v5.ownBlock ≠ some gr := fun e => (ff gr e).elim (fun e => h2.vn e) (fun hh => by have := h2.lt; omega)
  refine ⟨r3, ⟨by rw [e1]; exact r4, h2.li.kept c24 (fun ad e hh => hh.elim (h2.la ad e).2.1 (h2.la ad e).1), ?_, fun ad e => ⟨(h2.la ad e).1, fun e2 => (ff _ e2).elim (h2.la ad e).2.1 (fun hh => by have := (h2.la ad e).2.2; omega), Nat.lt_of_lt_of_le (h2.la ad e).2.2 c24.size⟩, vn5, Nat.le_trans h2.hB c24.size, fun k hk => ⟨Nat.lt_of_lt_of_le (h2.nd k hk).1 c24.size, (h2.nd k hk).2.1, fun e => (ff _ e).elim (h2.nd k hk).2.2 (fun hh => by have := (h2.nd k hk).1; omega)⟩, h.hp, h.hu, h.hm, hs, by simp; omega⟩, ?_⟩
  · rw [List.length_append]; exact c3.own own5 (fun k hk hh => vn5 (hh ▸ hk))
  · have c02 : Ch w w2 (fun k => k = gr) := c1.trans (Ch.of_below (T := fun _ => False) hal) (fun _ h => h.elim)
    exact (c02.wide (U := fun k => ¬ D k) (fun k hk => .inl (fun hd => (h.nd k hd).2.1 hk))).trans c24 (fun k hk => .inl (fun hd => hk.elim (fun e => (h.nd k hd).2.2 e) (fun e => (h.nd k hd).2.1 e)))
set_option maxRecDepth 100000 in
set_option maxHeartbeats 4000000 in
theorem rput_lit (h : Rn w D B gr a cap u p 0 most s.1.length s.2 v) {z : Nat} (hzz : z < 256) :
    Calls Tryd.prog 52 #[.pointer (some ⟨gr, 0, none⟩), .agg #[.int .i64 0, .int .i64 (z : Nat)]] w (RutPost w D B gr a cap u most (Ip.addP most ((0 : Int), ((z : Nat) : Int)) s u p)) := by
  have hm := h.hm
  have hs := h.hs
  have hts := h.ht
  obtain ⟨la, lc, rfl⟩ : ∃ la lc, v = .slice la s.2.length lc := by
    rcases own_nil_or h.own with ⟨e, e2⟩ | ⟨g', c', e, _⟩
    · exact ⟨none, 0, by rw [e, e2]⟩
    · exact ⟨_, c', e⟩
  have HB := Lib.hid (below_alloc w (.cells #[.int .i64 0, .int .i64 (z : Nat)] 47))
  have HR := Lib.hid (h.mono HB.out)
  have hrow : (w.alloc (.cells #[.int .i64 0, .int .i64 (z : Nat)] 47)).heap[w.heap.size]? = some (.cells #[.int .i64 0, .int .i64 (z : Nat)] 47 (0, 0)) := heap_alloc_last w _
  have hgg : (w.heap.size : Nat) ≠ gr := by have := h.lt; omega
  have HVB : Hid ((Value.slice la s.2.length lc).ownBlock ≠ some w.heap.size) := Lib.hid (fun e => by have := (h.own.lt _ e).2; omega)
  have k2 := HR.out.cells.2.2.1
  have k3 := HR.out.cells.2.2.2.1
  have k4 := HR.out.cells.2.2.2.2.1
  have b0 : (w.alloc (.cells #[.int .i64 0, .int .i64 (z : Nat)] 47)).cell? ⟨w.heap.size, 0, none⟩ = some (.int .i64 0) := by rw [cell_of_row _ _ _ _ _ (0, 0) hrow]; rfl
  have b1 : (w.alloc (.cells #[.int .i64 0, .int .i64 (z : Nat)] 47)).cell? ⟨w.heap.size, 1, none⟩ = some (.int .i64 (z : Nat)) := by rw [cell_of_row _ _ _ _ _ (0, 0) hrow]; rfl
  clear h
  have HSZ : Hid (Tk.size ((0 : Int), ((z : Nat) : Int)) = 1) := Lib.hid (by unfold Tk.size; rw [if_pos rfl])
  have i0 : IntKind.i64.wrap ((s.1.length : Int) + 1) = (s.1.length : Int) + 1 := IntWalk.i64_in _ ⟨by omega, by omega⟩
  by_cases hbig : most < s.1.length + 1
  · have HX : Hid (Ip.addP most ((0 : Int), ((z : Nat) : Int)) s u p = .err 4) := Lib.hid (by
      have : Tk.add most s.1 ((0 : Int), ((z : Nat) : Int)) = (4, []) := by
        unfold Tk.add; rw [if_neg (fun h => h.1 rfl), if_pos (by rw [HSZ.out]; exact hbig)]
      unfold Ip.addP; rw [this]; rfl)
    have d1 : decide ((most : Int) < (s.1.length : Int) + 1) = true := by simp; omega
    go_enter Tryd.func52, Tryd.ntmps52
    go_wp2
    go_quiet (fail)
    have hd := dn_is (w.alloc (.cells #[.int .i64 0, .int .i64 (z : Nat)] 47)) nq
    have HF := Lib.hid (HR.out.mono hd)
    have HBa := Lib.hid (below_then HB.out hd)
    clear HR HB hrow k2 k3 k4 b0 b1 hd
    go_wp2_with fail
    refine (rfail_any HF.out 4 (by decide)).mono ?_
    rintro e w2 ⟨rfl, ⟨bb, hbb, hrn⟩, hch⟩
    go_wp2
    go_end0
    exact ⟨rfl, by rw [HX.out]; exact ⟨p, bb, _, _, _, hbb, hrn⟩, (Ch.of_below (T := fun k => ¬ D k) HBa.out).trans hch (fun n hn => .inl hn)⟩
  · have HX : Hid (Ip.addP most ((0 : Int), ((z : Nat) : Int)) s u p = .ok (Tk.put s.1 ((0 : Int), ((z : Nat) : Int)), s.2 ++ [((0 : Int), ((z : Nat) : Int))]) p) := Lib.hid (by
      have : Tk.add most s.1 ((0 : Int), ((z : Nat) : Int)) = (0, Tk.put s.1 ((0 : Int), ((z : Nat) : Int))) := by
        unfold Tk.add; rw [if_neg (fun h => h.1 rfl), if_neg (by rw [HSZ.out]; exact hbig)]
      unfold Ip.addP; rw [this]; rfl)
    have d1 : decide ((most : Int) < (s.1.length : Int) + 1) = false := by simp; omega
    go_enter Tryd.func52, Tryd.ntmps52
    go_wp2
    go_quiet (fail)
    have hd := dn_is (w.alloc (.cells #[.int .i64 0, .int .i64 (z : Nat)] 47)) nq
    have HRa := Lib.hid (HR.out.mono hd)
    have HBa := Lib.hid (Ch.of_below (T := fun k => ¬ D k) (below_then HB.out hd))
    have hrowa := (hd.block w.heap.size (by simp)).trans hrow
    clear HR HB hrow k2 k3 k4 b0 b1 hd
    revert HRa HBa hrowa
    generalize World.drewN _ _ = wa
    intro HR HB hrow
    generalize hgb : w.heap.size = gb at *
    clear hgb
    have HPUT : Hid (∀ (w2 w3 : World) (v5 : Value), Below (wa.setCell ⟨gr, 4, none⟩ (.int .i64 ((s.1.length : Int) + 1))).heap.size (wa.setCell ⟨gr, 4, none⟩ (.int .i64 ((s.1.length : Int) + 1))) w2 → Ch w2 w3 (fun k => (Value.slice la s.2.length lc).ownBlock = some k) → w3.ownsRow B 47 2 v5 (s.2.length + 1) (tks (s.2 ++ [((0 : Int), ((z : Nat) : Int))])) → (∀ k, v5.ownBlock = some k → (Value.slice la s.2.length lc).ownBlock = some k ∨ w2.heap.size ≤ k) →
        w3.heap[gr]? = some (.cells #[.slice a u.length cap, .int .i64 (p : Nat), .int .i64 0, .int .i64 (most : Nat), .int .i64 ((s.1.length : Int) + 1), .slice la s.2.length lc] 66 (0, 0)) ∧ RutPost w D B gr a cap u most (Ip.addP most ((0 : Int), ((z : Nat) : Int)) s u p) (.returned (.tuple #[])) (w3.setCell ⟨gr, 5, none⟩ v5)) := Lib.hid (fun w2 w3 v5 h1 h2 h3 h4 => by
      obtain ⟨r1, r2, r3⟩ := Rn.put (n := 1) HR.out h1 h2 h3 h4 (by omega) (by omega)
      refine ⟨r1, rfl, ?_, HB.out.trans r3 (fun n hn => .inl hn)⟩
      rw [HX.out]
      refine ⟨v5, ?_⟩
      have e := Tk.put_length s.1 ((0 : Int), ((z : Nat) : Int))
      rw [HSZ.out] at e
      rw [e]; exact r2)
    have HOW := Lib.hid (show (wa.setCell ⟨gr, 4, none⟩ (.int .i64 ((s.1.length : Int) + 1))).ownsRow B 47 2 (.slice la s.2.length lc) s.2.length (tks s.2) from ((Ch.refl wa (fun k => k = gr)).set (p := ⟨gr, 4, none⟩) (.inl rfl) _).own HR.out.own (fun k hk hh => HR.out.vn (hh ▸ hk)))
    have hrow5 := row_set HR.out.row 4 (.int .i64 ((s.1.length : Int) + 1))
    have c0 : (wa.setCell ⟨gr, 4, none⟩ (.int .i64 ((s.1.length : Int) + 1))).cell? ⟨gr, 5, none⟩ = some (.slice la s.2.length lc) := by rw [cell_of_row _ _ _ _ _ (0, 0) hrow5]; rfl
    have hm5 := (Below.heap_setCell wa ⟨gr, 4, none⟩ (.int .i64 ((s.1.length : Int) + 1)) gb hgg).trans hrow
    have HM := Lib.hid hm5
    have b0 : (wa.setCell ⟨gr, 4, none⟩ (.int .i64 ((s.1.length : Int) + 1))).cell? ⟨gb, 0, none⟩ = some (.int .i64 0) := by rw [cell_of_row _ _ _ _ _ (0, 0) hm5]; rfl
    have b1 : (wa.setCell ⟨gr, 4, none⟩ (.int .i64 ((s.1.length : Int) + 1))).cell? ⟨gb, 1, none⟩ = some (.int .i64 (z : Nat)) := by rw [cell_of_row _ _ _ _ _ (0, 0) hm5]; rfl
    have k4 := HR.out.cells.2.2.2.2.1
    have f4 := HR.out.free 4
    have hgl := HR.out.lt
    have hbl := (Array.getElem?_eq_some_iff.1 hrow).1
    have hBz := HR.out.hB
    clear hrow5 hm5 hrow
    clear HR
    go_wp2_with fail
    have hz5 : gr < (wa.setCell ⟨gr, 4, none⟩ (.int .i64 ((s.1.length : Int) + 1))).heap.size ∧ gb < (wa.setCell ⟨gr, 4, none⟩ (.int .i64 ((s.1.length : Int) + 1))).heap.size ∧ B ≤ (wa.setCell ⟨gr, 4, none⟩ (.int .i64 ((s.1.length : Int) + 1))).heap.size := by simp; omega
    generalize wa.setCell ⟨gr, 4, none⟩ (.int .i64 ((s.1.length : Int) + 1)) = W5 at *
    refine wp_region_noPanic ?_
    refine region_J 10 (fun w' => w'.cell? ⟨gr, 5, none⟩ = some (.slice la s.2.length lc) ∧ w'.cell? ⟨gb, 0, none⟩ = some (.int .i64 0) ∧ w'.cell? ⟨gb, 1, none⟩ = some (.int .i64 (z : Nat))) (by kernel_rfl) ?_
    refine J_take (i := 0) (v := ?_) rfl (by kernel_rfl) (by kernel_rfl) (by kernel_rfl) (by kernel_rfl) (fun _ _ _ h => h) ⟨c0, b0, b1⟩ (by rfl) ?_ ?_
    rotate_left
    · (intro w' hw'; obtain ⟨j0, j1, j2⟩ := hw'; first | (go_simp; done) | (go_simp; with_reducible rfl))
    try simp only [Act.put, List.setIfInBounds_toArray, List.set_cons_zero, List.set_cons_succ]
    refine J_take (i := 1) (v := ?_) rfl (by kernel_rfl) (by kernel_rfl) (by kernel_rfl) (by kernel_rfl) (fun _ _ _ h => h) ⟨c0, b0, b1⟩ (by rfl) ?_ ?_
    rotate_left
    · (intro w' hw'; obtain ⟨j0, j1, j2⟩ := hw'; first | (go_simp; done) | (go_simp; with_reducible rfl))
    try simp only [Act.put, List.setIfInBounds_toArray, List.set_cons_zero, List.set_cons_succ]
    refine J_take (i := 2) (v := ?_) rfl (by kernel_rfl) (by kernel_rfl) (by kernel_rfl) (by kernel_rfl) (fun _ _ _ h => h) ⟨c0, b0, b1⟩ (by rfl) ?_ ?_
    rotate_left
    · (intro w' hw'; obtain ⟨j0, j1, j2⟩ := hw'; first | (go_simp; done) | (go_simp; with_reducible rfl))
    try simp only [Act.put, List.setIfInBounds_toArray, List.set_cons_zero, List.set_cons_succ]
    refine J_take (i := 3) (v := ?_) rfl (by kernel_rfl) (by kernel_rfl) (by kernel_rfl) (by kernel_rfl) (fun _ _ _ h => h) ⟨c0, b0, b1⟩ (by rfl) ?_ ?_
    rotate_left
    · (intro w' hw'; obtain ⟨j0, j1, j2⟩ := hw'; first | (go_simp; done) | (go_simp; with_reducible rfl))
    try simp only [Act.put, List.setIfInBounds_toArray, List.set_cons_zero, List.set_cons_succ]
    refine J_take (i := 4) (v := ?_) rfl (by kernel_rfl) (by kernel_rfl) (by kernel_rfl) (by kernel_rfl) (fun _ _ _ h => h) ⟨c0, b0, b1⟩ (by rfl) ?_ ?_
    rotate_left
    · (intro w' hw'; obtain ⟨j0, j1, j2⟩ := hw'; first | (go_simp; done) | (go_simp; with_reducible rfl))
    try simp only [Act.put, List.setIfInBounds_toArray, List.set_cons_zero, List.set_cons_succ]
    refine J_take (i := 5) (v := ?_) rfl (by kernel_rfl) (by kernel_rfl) (by kernel_rfl) (by kernel_rfl) (fun _ _ _ h => h) ⟨c0, b0, b1⟩ (by rfl) ?_ ?_
    rotate_left
    · (intro w' hw'; obtain ⟨j0, j1, j2⟩ := hw'; first | (go_simp; done) | (go_simp; with_reducible rfl))
    try simp only [Act.put, List.setIfInBounds_toArray, List.set_cons_zero, List.set_cons_succ]
    refine J_step (i := 6) (by kernel_rfl) rfl (fun K hK => ?_)
    go_simp
    have hal : Below W5.heap.size W5 (W5.alloc (.cells #[.int .i64 0, .int .i64 (z : Nat)] 47)).drew := (below_alloc _ _).trans ((dn_is _ 1).mono (by simp))
    have k0 := (hal.cell (p := ⟨gr, 5, none⟩) (by simp; omega)).trans c0
    have k1 := (hal.cell (p := ⟨gb, 0, none⟩) (by simp; omega)).trans b0
    have k2 := (hal.cell (p := ⟨gb, 1, none⟩) (by simp; omega)).trans b1
    refine hK.out _ _ (fun _ => ⟨k0, k1, k2⟩) (fun _ => ?_)
    clear hK K
    try simp only [Act.put, List.setIfInBounds_toArray, List.set_cons_zero, List.set_cons_succ]
    refine J_step (i := 7) (by kernel_rfl) rfl (fun K hK => ?_)
    refine step_app tyT rfl _ _ rfl (own_below HOW.out hal) ((src_tok _ (((0 : Int), ((z : Nat) : Int)) : Tok)).mono (dn_is _ 1)) rfl rfl (by omega) (by omega) (by omega) (by simp; omega) ?_
    intro v5 w5 own5 st5
    have cc5 := Ch.step st5
    have ff5 := st5.block
    rw [← tks_append] at own5
    obtain ⟨a5, cap5, rfl⟩ : ∃ a5 cap5, v5 = .slice a5 (s.2.length + 1) cap5 := by
      rcases own_nil_or own5 with ⟨_, e2⟩ | ⟨g', c', e, _⟩
      · omega
      · exact ⟨_, c', e⟩
    have m1 := (cc5.block gb (by first | omega | (simp; omega)) (fun e => HVB.out e)).trans ((hal.block gb (by first | omega | (simp; omega))).trans HM.out)
    obtain ⟨m0, HQ⟩ := HPUT.out _ _ _ hal cc5 own5 ff5
    have HQ := Lib.hid HQ
    have q0 : w5.cell? ⟨gr, 5, none⟩ = some (.slice la s.2.length lc) := by rw [cell_of_row _ _ _ _ _ (0, 0) m0]; rfl
    have q1 : w5.cell? ⟨gb, 0, none⟩ = some (.int .i64 0) := by rw [cell_of_row _ _ _ _ _ (0, 0) m1]; rfl
    have q2 : w5.cell? ⟨gb, 1, none⟩ = some (.int .i64 (z : Nat)) := by rw [cell_of_row _ _ _ _ _ (0, 0) m1]; rfl
    have qf : w5.frozen? ⟨gr, 5, none⟩ = false := frozen_of_row _ _ _ _ _ m0
    refine hK.out _ _ (fun _ => ⟨q0, q1, q2⟩) (fun _ => ?_)
    clear hK K own5 cc5 ff5 st5 hal k0 k1 k2 m0 m1
    try simp only [Act.put, List.setIfInBounds_toArray, List.set_cons_zero, List.set_cons_succ]
    refine J_step (i := 8) (by kernel_rfl) rfl (fun K hK => ?_)
    go_simp
    refine hK.out _ _ (fun _ => ⟨q0, q1, q2⟩) (fun _ => ?_)
    clear hK K
    try simp only [Act.put, List.setIfInBounds_toArray, List.set_cons_zero, List.set_cons_succ]
    refine J_step (i := 9) (by kernel_rfl) rfl (fun K hK => ?_)
    go_simp
    refine hK.out _ _ (fun _ => ⟨q0, q1, q2⟩) (fun _ => ?_)
    clear hK K
    try simp only [Act.put, List.setIfInBounds_toArray, List.set_cons_zero, List.set_cons_succ]
    refine J_step (i := 10) (by kernel_rfl) rfl (fun K hK => ?_)
    go_simp
    refine hK.out _ _ (fun h => absurd rfl h) (fun _ => ?_)
    clear hK K
    try simp only [Act.put, List.setIfInBounds_toArray, List.set_cons_zero, List.set_cons_succ]
    refine J_done (by kernel_rfl) ?_ _
    refine NoPanic.normal ?_
    go_wp2
    go_end0
    exact HQ.out
set_option maxRecDepth 100000 in
set_option maxHeartbeats 4000000 in
theorem rput_far (h : Rn w D B gr a cap u p 0 most s.1.length s.2 v) {k d : Nat} (hk : 1 ≤ k) (hk2 : k ≤ 100000) (hd2 : d ≤ 100000) :
    Calls Tryd.prog 52 #[.pointer (some ⟨gr, 0, none⟩), .agg #[.int .i64 (k : Nat), .int .i64 (d : Nat)]] w (RutPost w D B gr a cap u most (Ip.addP most (((k : Nat) : Int), ((d : Nat) : Int)) s u p)) := by
  have hm := h.hm
  have hs := h.hs
  have hts := h.ht
  obtain ⟨la, lc, rfl⟩ : ∃ la lc, v = .slice la s.2.length lc := by
    rcases own_nil_or h.own with ⟨e, e2⟩ | ⟨g', c', e, _⟩
    · exact ⟨none, 0, by rw [e, e2]⟩
    · exact ⟨_, c', e⟩
  have HB := Lib.hid (below_alloc w (.cells #[.int .i64 (k : Nat), .int .i64 (d : Nat)] 47))
  have HR := Lib.hid (h.mono HB.out)
  have hrow : (w.alloc (.cells #[.int .i64 (k : Nat), .int .i64 (d : Nat)] 47)).heap[w.heap.size]? = some (.cells #[.int .i64 (k : Nat), .int .i64 (d : Nat)] 47 (0, 0)) := heap_alloc_last w _
  have hgg : (w.heap.size : Nat) ≠ gr := by have := h.lt; omega
  have HVB : Hid ((Value.slice la s.2.length lc).ownBlock ≠ some w.heap.size) := Lib.hid (fun e => by have := (h.own.lt _ e).2; omega)
  have k2 := HR.out.cells.2.2.1
  have k3 := HR.out.cells.2.2.2.1
  have k4 := HR.out.cells.2.2.2.2.1
  have b0 : (w.alloc (.cells #[.int .i64 (k : Nat), .int .i64 (d : Nat)] 47)).cell? ⟨w.heap.size, 0, none⟩ = some (.int .i64 (k : Nat)) := by rw [cell_of_row _ _ _ _ _ (0, 0) hrow]; rfl
  have b1 : (w.alloc (.cells #[.int .i64 (k : Nat), .int .i64 (d : Nat)] 47)).cell? ⟨w.heap.size, 1, none⟩ = some (.int .i64 (d : Nat)) := by rw [cell_of_row _ _ _ _ _ (0, 0) hrow]; rfl
  clear h
  have HSZ : Hid (Tk.size (((k : Nat) : Int), ((d : Nat) : Int)) = k) := Lib.hid (by unfold Tk.size; rw [if_neg (by show ((k : Nat) : Int) ≠ 0; omega)]; simp)
  have dk : decide ((0 : Int) < (k : Int)) = true := by simp; omega
  have i0 : IntKind.i64.wrap ((s.1.length : Int) + (k : Int)) = (s.1.length : Int) + (k : Int) := IntWalk.i64_in _ ⟨by omega, by omega⟩
  by_cases hfar : s.1.length < d
  · have HX : Hid (Ip.addP most (((k : Nat) : Int), ((d : Nat) : Int)) s u p = .err 2) := Lib.hid (by
      have : Tk.add most s.1 (((k : Nat) : Int), ((d : Nat) : Int)) = (2, []) := by
        unfold Tk.add; rw [if_pos ⟨by show ((k : Nat) : Int) ≠ 0; omega, by show (s.1.length : Int) < (d : Int); omega⟩]
      unfold Ip.addP; rw [this]; rfl)
    have d1 : decide (s.1.length < d) = true := by simpa using hfar
    go_enter Tryd.func52, Tryd.ntmps52
    go_wp2
    go_quiet (fail)
    have hd := dn_is (w.alloc (.cells #[.int .i64 (k : Nat), .int .i64 (d : Nat)] 47)) nq
    have HF := Lib.hid (HR.out.mono hd)
    have HBa := Lib.hid (below_then HB.out hd)
    clear HR HB hrow k2 k3 k4 b0 b1 hd
    go_wp2_with fail
    refine (rfail_any HF.out 2 (by decide)).mono ?_
    rintro e w2 ⟨rfl, ⟨bb, hbb, hrn⟩, hch⟩
    go_wp2
    go_end0
    exact ⟨rfl, by rw [HX.out]; exact ⟨p, bb, _, _, _, hbb, hrn⟩, (Ch.of_below (T := fun k => ¬ D k) HBa.out).trans hch (fun n hn => .inl hn)⟩
  have d1 : decide (s.1.length < d) = false := by simpa using hfar
  by_cases hbig : most < s.1.length + k
  · have HX : Hid (Ip.addP most (((k : Nat) : Int), ((d : Nat) : Int)) s u p = .err 4) := Lib.hid (by
      have : Tk.add most s.1 (((k : Nat) : Int), ((d : Nat) : Int)) = (4, []) := by
        unfold Tk.add; rw [if_neg (fun h => hfar (by have := h.2; dsimp only at this; omega)), if_pos (by rw [HSZ.out]; exact hbig)]
      unfold Ip.addP; rw [this]; rfl)
    have d2 : decide ((most : Int) < (s.1.length : Int) + (k : Int)) = true := by simp; omega
    go_enter Tryd.func52, Tryd.ntmps52
    go_wp2
    go_quiet (fail)
    have h0 := dn_is (w.alloc (.cells #[.int .i64 (k : Nat), .int .i64 (d : Nat)] 47)) nq
    have HR0 := Lib.hid (HR.out.mono h0)
    have HB0 := Lib.hid (below_then HB.out h0)
    have hrow0 := (h0.block w.heap.size (by simp)).trans hrow
    clear HR HB hrow k2 k3 k4 b0 b1 h0
    revert HR0 HB0 hrow0
    generalize World.drewN _ _ = w1
    intro HR HB hrow
    have k3 := HR.out.cells.2.2.2.1
    have k4 := HR.out.cells.2.2.2.2.1
    go_wp2
    go_quiet (fail)
    have hd := dn_is w1 nq
    have HF := Lib.hid (HR.out.mono hd)
    have HBa := Lib.hid (below_then HB.out hd)
    clear HR HB hrow k3 k4 hd
    go_wp2_with fail
    refine (rfail_any HF.out 4 (by decide)).mono ?_
    rintro e w2 ⟨rfl, ⟨bb, hbb, hrn⟩, hch⟩
    go_wp2
    go_end0
    exact ⟨rfl, by rw [HX.out]; exact ⟨p, bb, _, _, _, hbb, hrn⟩, (Ch.of_below (T := fun k => ¬ D k) HBa.out).trans hch (fun n hn => .inl hn)⟩
  · have HX : Hid (Ip.addP most (((k : Nat) : Int), ((d : Nat) : Int)) s u p = .ok (Tk.put s.1 (((k : Nat) : Int), ((d : Nat) : Int)), s.2 ++ [(((k : Nat) : Int), ((d : Nat) : Int))]) p) := Lib.hid (by
      have : Tk.add most s.1 (((k : Nat) : Int), ((d : Nat) : Int)) = (0, Tk.put s.1 (((k : Nat) : Int), ((d : Nat) : Int))) := by
        unfold Tk.add; rw [if_neg (fun h => hfar (by have := h.2; dsimp only at this; omega)), if_neg (by rw [HSZ.out]; exact hbig)]
      unfold Ip.addP; rw [this]; rfl)
    have d2 : decide ((most : Int) < (s.1.length : Int) + (k : Int)) = false := by simp; omega
    go_enter Tryd.func52, Tryd.ntmps52
    go_wp2
    go_quiet (fail)
    have h0 := dn_is (w.alloc (.cells #[.int .i64 (k : Nat), .int .i64 (d : Nat)] 47)) nq
    have HR0 := Lib.hid (HR.out.mono h0)
    have HB0 := Lib.hid (below_then HB.out h0)
    have hrow0 := (h0.block w.heap.size (by simp)).trans hrow
    clear HR HB hrow k2 k3 k4 b0 b1 h0
    revert HR0 HB0 hrow0
    generalize World.drewN _ _ = w1
    intro HR HB hrow
    have k3 := HR.out.cells.2.2.2.1
    have k4 := HR.out.cells.2.2.2.2.1
    go_wp2
    go_quiet (fail)
    have hd := dn_is w1 nq
    have HRa := Lib.hid (HR.out.mono hd)
    have HBa := Lib.hid (Ch.of_below (T := fun k => ¬ D k) (below_then HB.out hd))
    have hrowa := (hd.block w.heap.size (Array.getElem?_eq_some_iff.1 hrow).1).trans hrow
    clear HR HB hrow k3 k4 hd
    revert HRa HBa hrowa
    generalize World.drewN _ _ = wa
    intro HR HB hrow
    generalize hgb : w.heap.size = gb at *
    clear hgb
    have HPUT : Hid (∀ (w2 w3 : World) (v5 : Value), Below (wa.setCell ⟨gr, 4, none⟩ (.int .i64 ((s.1.length : Int) + (k : Int)))).heap.size (wa.setCell ⟨gr, 4, none⟩ (.int .i64 ((s.1.length : Int) + (k : Int)))) w2 → Ch w2 w3 (fun k => (Value.slice la s.2.length lc).ownBlock = some k) → w3.ownsRow B 47 2 v5 (s.2.length + 1) (tks (s.2 ++ [(((k : Nat) : Int), ((d : Nat) : Int))])) → (∀ k, v5.ownBlock = some k → (Value.slice la s.2.length lc).ownBlock = some k ∨ w2.heap.size ≤ k) →
        w3.heap[gr]? = some (.cells #[.slice a u.length cap, .int .i64 (p : Nat), .int .i64 0, .int .i64 (most : Nat), .int .i64 ((s.1.length : Int) + (k : Int)), .slice la s.2.length lc] 66 (0, 0)) ∧ RutPost w D B gr a cap u most (Ip.addP most (((k : Nat) : Int), ((d : Nat) : Int)) s u p) (.returned (.tuple #[])) (w3.setCell ⟨gr, 5, none⟩ v5)) := Lib.hid (fun w2 w3 v5 h1 h2 h3 h4 => by
      obtain ⟨r1, r2, r3⟩ := Rn.put (n := k) HR.out h1 h2 h3 h4 (by omega) (by omega)
      refine ⟨r1, rfl, ?_, HB.out.trans r3 (fun n hn => .inl hn)⟩
      rw [HX.out]
      refine ⟨v5, ?_⟩
      have e := Tk.put_length s.1 (((k : Nat) : Int), ((d : Nat) : Int))
      rw [HSZ.out] at e
      rw [e]; exact r2)
    have HOW := Lib.hid (show (wa.setCell ⟨gr, 4, none⟩ (.int .i64 ((s.1.length : Int) + (k : Int)))).ownsRow B 47 2 (.slice la s.2.length lc) s.2.length (tks s.2) from ((Ch.refl wa (fun k => k = gr)).set (p := ⟨gr, 4, none⟩) (.inl rfl) _).own HR.out.own (fun k hk hh => HR.out.vn (hh ▸ hk)))
    have hrow5 := row_set HR.out.row 4 (.int .i64 ((s.1.length : Int) + (k : Int)))
    have c0 : (wa.setCell ⟨gr, 4, none⟩ (.int .i64 ((s.1.length : Int) + (k : Int)))).cell? ⟨gr, 5, none⟩ = some (.slice la s.2.length lc) := by rw [cell_of_row _ _ _ _ _ (0, 0) hrow5]; rfl
    have hm5 := (Below.heap_setCell wa ⟨gr, 4, none⟩ (.int .i64 ((s.1.length : Int) + (k : Int))) gb hgg).trans hrow
    have HM := Lib.hid hm5
    have b0 : (wa.setCell ⟨gr, 4, none⟩ (.int .i64 ((s.1.length : Int) + (k : Int)))).cell? ⟨gb, 0, none⟩ = some (.int .i64 (k : Nat)) := by rw [cell_of_row _ _ _ _ _ (0, 0) hm5]; rfl
    have b1 : (wa.setCell ⟨gr, 4, none⟩ (.int .i64 ((s.1.length : Int) + (k : Int)))).cell? ⟨gb, 1, none⟩ = some (.int .i64 (d : Nat)) := by rw [cell_of_row _ _ _ _ _ (0, 0) hm5]; rfl
    have k4 := HR.out.cells.2.2.2.2.1
    have f4 := HR.out.free 4
    have hgl := HR.out.lt
    have hbl := (Array.getElem?_eq_some_iff.1 hrow).1
    have hBz := HR.out.hB
    clear hrow5 hm5 hrow
    clear HR
    go_wp2_with fail
    have hz5 : gr < (wa.setCell ⟨gr, 4, none⟩ (.int .i64 ((s.1.length : Int) + (k : Int)))).heap.size ∧ gb < (wa.setCell ⟨gr, 4, none⟩ (.int .i64 ((s.1.length : Int) + (k : Int)))).heap.size ∧ B ≤ (wa.setCell ⟨gr, 4, none⟩ (.int .i64 ((s.1.length : Int) + (k : Int)))).heap.size := by simp; omega
    generalize wa.setCell ⟨gr, 4, none⟩ (.int .i64 ((s.1.length : Int) + (k : Int))) = W5 at *
    refine wp_region_noPanic ?_
    refine region_J 10 (fun w' => w'.cell? ⟨gr, 5, none⟩ = some (.slice la s.2.length lc) ∧ w'.cell? ⟨gb, 0, none⟩ = some (.int .i64 (k : Nat)) ∧ w'.cell? ⟨gb, 1, none⟩ = some (.int .i64 (d : Nat))) (by kernel_rfl) ?_
    refine J_take (i := 0) (v := ?_) rfl (by kernel_rfl) (by kernel_rfl) (by kernel_rfl) (by kernel_rfl) (fun _ _ _ h => h) ⟨c0, b0, b1⟩ (by rfl) ?_ ?_
    rotate_left
    · (intro w' hw'; obtain ⟨j0, j1, j2⟩ := hw'; first | (go_simp; done) | (go_simp; with_reducible rfl))
    try simp only [Act.put, List.setIfInBounds_toArray, List.set_cons_zero, List.set_cons_succ]
    refine J_take (i := 1) (v := ?_) rfl (by kernel_rfl) (by kernel_rfl) (by kernel_rfl) (by kernel_rfl) (fun _ _ _ h => h) ⟨c0, b0, b1⟩ (by rfl) ?_ ?_
    rotate_left
    · (intro w' hw'; obtain ⟨j0, j1, j2⟩ := hw'; first | (go_simp; done) | (go_simp; with_reducible rfl))
    try simp only [Act.put, List.setIfInBounds_toArray, List.set_cons_zero, List.set_cons_succ]
    refine J_take (i := 2) (v := ?_) rfl (by kernel_rfl) (by kernel_rfl) (by kernel_rfl) (by kernel_rfl) (fun _ _ _ h => h) ⟨c0, b0, b1⟩ (by rfl) ?_ ?_
    rotate_left
    · (intro w' hw'; obtain ⟨j0, j1, j2⟩ := hw'; first | (go_simp; done) | (go_simp; with_reducible rfl))
    try simp only [Act.put, List.setIfInBounds_toArray, List.set_cons_zero, List.set_cons_succ]
    refine J_take (i := 3) (v := ?_) rfl (by kernel_rfl) (by kernel_rfl) (by kernel_rfl) (by kernel_rfl) (fun _ _ _ h => h) ⟨c0, b0, b1⟩ (by rfl) ?_ ?_
    rotate_left
    · (intro w' hw'; obtain ⟨j0, j1, j2⟩ := hw'; first | (go_simp; done) | (go_simp; with_reducible rfl))
    try simp only [Act.put, List.setIfInBounds_toArray, List.set_cons_zero, List.set_cons_succ]
    refine J_take (i := 4) (v := ?_) rfl (by kernel_rfl) (by kernel_rfl) (by kernel_rfl) (by kernel_rfl) (fun _ _ _ h => h) ⟨c0, b0, b1⟩ (by rfl) ?_ ?_
    rotate_left
    · (intro w' hw'; obtain ⟨j0, j1, j2⟩ := hw'; first | (go_simp; done) | (go_simp; with_reducible rfl))
    try simp only [Act.put, List.setIfInBounds_toArray, List.set_cons_zero, List.set_cons_succ]
    refine J_take (i := 5) (v := ?_) rfl (by kernel_rfl) (by kernel_rfl) (by kernel_rfl) (by kernel_rfl) (fun _ _ _ h => h) ⟨c0, b0, b1⟩ (by rfl) ?_ ?_
    rotate_left
    · (intro w' hw'; obtain ⟨j0, j1, j2⟩ := hw'; first | (go_simp; done) | (go_simp; with_reducible rfl))
    try simp only [Act.put, List.setIfInBounds_toArray, List.set_cons_zero, List.set_cons_succ]
    refine J_step (i := 6) (by kernel_rfl) rfl (fun K hK => ?_)
    go_simp
    have hal : Below W5.heap.size W5 (W5.alloc (.cells #[.int .i64 (k : Nat), .int .i64 (d : Nat)] 47)).drew := (below_alloc _ _).trans ((dn_is _ 1).mono (by simp))
    have k0 := (hal.cell (p := ⟨gr, 5, none⟩) (by simp; omega)).trans c0
    have k1 := (hal.cell (p := ⟨gb, 0, none⟩) (by simp; omega)).trans b0
    have k2 := (hal.cell (p := ⟨gb, 1, none⟩) (by simp; omega)).trans b1
    refine hK.out _ _ (fun _ => ⟨k0, k1, k2⟩) (fun _ => ?_)
    clear hK K
    try simp only [Act.put, List.setIfInBounds_toArray, List.set_cons_zero, List.set_cons_succ]
    refine J_step (i := 7) (by kernel_rfl) rfl (fun K hK => ?_)
    refine step_app tyT rfl _ _ rfl (own_below HOW.out hal) ((src_tok _ ((((k : Nat) : Int), ((d : Nat) : Int)) : Tok)).mono (dn_is _ 1)) rfl rfl (by omega) (by omega) (by omega) (by simp; omega) ?_
    intro v5 w5 own5 st5
    have cc5 := Ch.step st5
    have ff5 := st5.block
    rw [← tks_append] at own5
    obtain ⟨a5, cap5, rfl⟩ : ∃ a5 cap5, v5 = .slice a5 (s.2.length + 1) cap5 := by
      rcases own_nil_or own5 with ⟨_, e2⟩ | ⟨g', c', e, _⟩
      · omega
      · exact ⟨_, c', e⟩
    have m1 := (cc5.block gb (by first | omega | (simp; omega)) (fun e => HVB.out e)).trans ((hal.block gb (by first | omega | (simp; omega))).trans HM.out)
    obtain ⟨m0, HQ⟩ := HPUT.out _ _ _ hal cc5 own5 ff5
    have HQ := Lib.hid HQ
    have q0 : w5.cell? ⟨gr, 5, none⟩ = some (.slice la s.2.length lc) := by rw [cell_of_row _ _ _ _ _ (0, 0) m0]; rfl
    have q1 : w5.cell? ⟨gb, 0, none⟩ = some (.int .i64 (k : Nat)) := by rw [cell_of_row _ _ _ _ _ (0, 0) m1]; rfl
    have q2 : w5.cell? ⟨gb, 1, none⟩ = some (.int .i64 (d : Nat)) := by rw [cell_of_row _ _ _ _ _ (0, 0) m1]; rfl
    have qf : w5.frozen? ⟨gr, 5, none⟩ = false := frozen_of_row _ _ _ _ _ m0
    refine hK.out _ _ (fun _ => ⟨q0, q1, q2⟩) (fun _ => ?_)
    clear hK K own5 cc5 ff5 st5 hal k0 k1 k2 m0 m1
    try simp only [Act.put, List.setIfInBounds_toArray, List.set_cons_zero, List.set_cons_succ]
    refine J_step (i := 8) (by kernel_rfl) rfl (fun K hK => ?_)
    go_simp
    refine hK.out _ _ (fun _ => ⟨q0, q1, q2⟩) (fun _ => ?_)
    clear hK K
    try simp only [Act.put, List.setIfInBounds_toArray, List.set_cons_zero, List.set_cons_succ]
    refine J_step (i := 9) (by kernel_rfl) rfl (fun K hK => ?_)
    go_simp
    refine hK.out _ _ (fun _ => ⟨q0, q1, q2⟩) (fun _ => ?_)
    clear hK K
    try simp only [Act.put, List.setIfInBounds_toArray, List.set_cons_zero, List.set_cons_succ]
    refine J_step (i := 10) (by kernel_rfl) rfl (fun K hK => ?_)
    go_simp
    refine hK.out _ _ (fun h => absurd rfl h) (fun _ => ?_)
    clear hK K
    try simp only [Act.put, List.setIfInBounds_toArray, List.set_cons_zero, List.set_cons_succ]
    refine J_done (by kernel_rfl) ?_ _
    refine NoPanic.normal ?_
    go_wp2
    go_end0
    exact HQ.out
end
end Go.Proofs.YtfgpmccmalddjaaDoor
end

section
namespace Go.Proofs.YtfgpmccmalddjaaDoor
open Go.RowKit
attribute [local go_sem] Oper.semAt_some

/-- It stands as told, or something is wrong. -/
def Rz (w : World) (D : Nat → Prop) (B gr : Nat) (a : Option Addr) (cap : Nat) (u : List Bool) (most : Nat) (r : Ip.Rs Unp) : Prop := Rq w D B gr a cap u most r ∨ Rq w D B gr a cap u most (.err 1)
/-- What a method without results leaves. -/
def RzPost (w : World) (D : Nat → Prop) (B gr : Nat) (a : Option Addr) (cap : Nat) (u : List Bool) (most : Nat) (r : Ip.Rs Unp) (e : Ending) (w' : World) : Prop :=
  e = .returned (.tuple #[]) ∧ Rz w' D B gr a cap u most r ∧ Ch w w' (fun k => ¬ D k)
section
variable {w : World} {D : Nat → Prop} {B gr : Nat} {a : Option Addr} {cap : Nat} {u : List Bool} {p : Nat} {bad : Int} {most sz : Nat} {ts : List Tok} {v : Value}
theorem rput_dead (h : Rn w D B gr a cap u p bad most sz ts v) (hb : bad ≠ 0) (x y : Int) :
    Calls Tryd.prog 52 #[.pointer (some ⟨gr, 0, none⟩), .agg #[.int .i64 x, .int .i64 y]] w fun e w' => e = .returned (.tuple #[]) ∧ Rn w' D B gr a cap u p bad most sz ts v ∧ Ch w w' (fun k => ¬ D k) := by
  have d1 : (bad != 0) = true := by simpa using hb
  have HB := below_alloc w (.cells #[.int .i64 x, .int .i64 y] 47)
  have HP := Lib.hid (And.intro (h.mono HB) (Ch.of_below (T := fun k => ¬ D k) HB))
  have k2 := (h.mono HB).cells.2.2.1
  clear h hb HB
  go_enter Tryd.func52, Tryd.ntmps52
  go_wp2
  exact bodyPost_ret (results_none (by kernel_rfl) _ _ _) rfl ⟨rfl, HP.out⟩
end
theorem refWhole_any (a : Option Addr) (len cap : Nat) (l : List Int) (w : World) (h : Is .i64 w a len cap l) (hr : len ≤ 140737488355328) :
    Calls Tryd.prog 57 #[.slice a len cap] w fun e w' => e = .returned (.bool (Ip.whole l)) ∧ w = w' := by
  have HF := Lib.hid (refFree_any a len cap l w h hr)
  have HX := Lib.hid (show (Cn.freeB l && (Cn.freeN l == 0)) = Ip.whole l by
    unfold Ip.whole Cn.freeB Cn.freeN
    cases hf : Cn.formB l
    · simp
    · simp only [if_true, Bool.true_and]
      by_cases hs : Cn.sum l = 65536
      · simp [hs]
      · have : ((65536 : Int) - (Cn.sum l : Int) == 0) = false := by simp; omega
        rw [this]; simp [hs])
  clear h
  go_enter Tryd.func57, Tryd.ntmps57
  go_wp2_with fail
  refine HF.out.mono ?_
  rintro e w1 ⟨rfl, rfl⟩
  generalize Cn.freeB l = fb at *
  generalize Cn.freeN l = fn at *
  cases fb
  · go_wp2
    go_ret
    exact ⟨by rw [← HX.out]; rfl, rfl⟩
  · have hx := HX.out
    simp only [Bool.true_and] at hx
    have HX2 := Lib.hid hx
    clear hx HX
    go_wp2
    go_ret
    exact ⟨by rw [← HX2.out]; rfl, rfl⟩
theorem sum_take (l : List Int) (k : Nat) (hk : k < l.length) : (l.take (k + 1)).sum = (l.take k).sum + l.getD k 0 := by
  rw [List.take_succ_eq_append_getElem hk, List.sum_append]
  simp [List.getD, List.getElem?_eq_getElem hk]
theorem sum_bound (l : List Int) (h : ∀ x ∈ l, 0 ≤ x ∧ x ≤ 1000000) : 0 ≤ l.sum ∧ l.sum ≤ 1000000 * (l.length : Int) := by
  induction l with
  | nil => simp
  | cons x l ih =>
    have h1 := h x (by simp)
    have h2 := ih (fun y hy => h y (by simp [hy]))
    simp only [List.sum_cons, List.length_cons]
    omega
theorem refSum_any (a : Option Addr) (len cap : Nat) (l : List Int) (w : World) (h : Is .i64 w a len cap l) (hl : len ≤ 1000) (hw : ∀ x ∈ l, 0 ≤ x ∧ x ≤ 1000000) :
    Calls Tryd.prog 58 #[.slice a len cap] w fun e w' => e = .returned (.int .i64 l.sum) ∧ w = w' := by
  have HL := Lib.hid h.hlen
  have H := Lib.hid h
  have HW := Lib.hid hw
  clear h hw
  go_enter Tryd.func58, Tryd.ntmps58
  go_wp2
  go_loop [3, 4] (fun s i => ∃ k : Nat, k ≤ len ∧ i = .int .i64 k ∧ s = .int .i64 (l.take k).sum) (fun _ i => len - (intOf i).toNat)
  case atStart => exact ⟨0, by omega, rfl, rfl⟩
  case round =>
    obtain ⟨k, hk, rfl, rfl⟩ := hrel
    by_cases hlt : k < len
    · obtain ⟨b1, off1, rfl, _, c1⟩ := H.out.at' k hlt
      have hkl : k < l.length := by rw [HL.out]; exact hlt
      have HE := Lib.hid (sum_take l k hkl)
      have hb1 := sum_bound (l.take k) (fun x hx => HW.out x (List.mem_of_mem_take hx))
      have hb2 := sum_bound (l.take (k + 1)) (fun x hx => HW.out x (List.mem_of_mem_take hx))
      rw [List.length_take] at hb1 hb2
      have hx0 : 0 ≤ l.getD k 0 ∧ l.getD k 0 ≤ 1000000 := HW.out _ (by simp [List.getD, List.getElem?_eq_getElem hkl])
      have hb1' : 0 ≤ (l.take k).sum ∧ (l.take k).sum ≤ 1000000000 := by omega
      clear hb1 hb2 hkl
      generalize (l.take k).sum = s at *
      generalize l.getD k 0 = x at *
      go_wp2
      go_roundw
      case rel => exact ⟨k + 1, by omega, by go_num, int_eq (by rw [HE.out])⟩
      case measure => simp [intOf]; omega
    · obtain rfl : len = k := by omega
      go_wp2
      go_ret
      exact ⟨by rw [List.take_of_length_le (by rw [HL.out]; exact Nat.le_refl _)]; rfl, rfl⟩
/-- The document's lengths of kind 1. -/
def FxPost (w : World) (e : Ending) (w' : World) : Prop :=
  ∃ v1 v2, e = .returned (.tuple #[v1, v2]) ∧ w'.ownsRow w.heap.size 3 1 v1 288 (ivs fixL) ∧ w'.ownsRow w.heap.size 3 1 v2 32 (ivs fixD) ∧ Below w.heap.size w w'
theorem fixL_take (k : Nat) (x : Int) (hk : k < 288) (hx : fixL.getD k 0 = x) : fixL.take (k + 1) = fixL.take k ++ [x] := by
  have hl : k < fixL.length := by rw [show fixL.length = 288 from by decide +kernel]; exact hk
  rw [List.take_succ_eq_append_getElem hl, ← hx]
  simp [List.getD, List.getElem?_eq_getElem hl]
theorem fixL_at : ∀ k, k < 288 → fixL.getD k 0 = if k < 144 then 8 else if k < 256 then 9 else if k < 280 then 7 else 8 := by decide +kernel
theorem fixD_take : ∀ k, k < 32 → fixD.take (k + 1) = fixD.take k ++ [5] := by decide +kernel
set_option maxHeartbeats 1000000 in
theorem refFixed_any (w : World) : Calls Tryd.prog 29 #[] w (FxPost w) := by
  go_enter Tryd.func29, Tryd.ntmps29
  go_wp2
  go_loopw [2, 3] (fun v i wr => ∃ k : Nat, k ≤ 288 ∧ i = .int .i64 k ∧ Below w.heap.size w wr ∧ Hid (wr.ownsRow w.heap.size 3 1 v k (ivs (fixL.take k)))) (fun _ i _ => 288 - (intOf i).toNat)
  case atStart => exact ⟨0, by omega, rfl, Below.refl _ _, Lib.hid (World.ownsRow_nil _ _ _ _)⟩
  case round =>
    obtain ⟨k, hk, rfl, hb, HO⟩ := hrel
    have hz := hb.size
    by_cases hlt : k < 288
    · have hat := fixL_at k hlt
      by_cases c1 : k < 144
      · have hx : fixL.getD k 0 = 8 := by rw [hat]; rw [if_pos c1]
        have HT := Lib.hid (fixL_take k 8 hlt hx)
        clear hx hat
        have d0 : decide ((k : Int) < 288) = true := by simp; omega
        have dc1 : decide ((k : Int) < 144) = true := by simp; omega
        have HLT := Lib.hid hlt
        clear hlt hk c1
        have hsrc := src_int wr 8
        have H1 := Lib.hid (HO.out.alloc (.cells #[Value.int .i64 8] 3))
        go_wp2_with (at_builtin; refine wpl_append tyI rfl _ _ rfl H1.out hsrc rfl rfl (by have := HLT.out; omega) (by have := HLT.out; omega) (by simp; omega) ?_)
        intro v2 w2 own2 hg2 _
        have hb2 : Below w.heap.size w w2 := (hb.alloc hz _).grown hg2 (by simp; omega) (fun k hk => (H1.out.lt k hk).1)
        rw [← ivs_append, ← HT.out] at own2
        have hlt := HLT.out
        have H2 := Lib.hid own2
        clear own2 hg2 hsrc H1 HO hb
        go_wp2
        go_roundw
        case rel => exact ⟨k + 1, by have := HLT.out; omega, by go_num, hb2, H2⟩
        case measure => have := HLT.out; simp [intOf]; omega
      · by_cases c2 : k < 256
        · have hx : fixL.getD k 0 = 9 := by rw [hat]; rw [if_neg c1, if_pos c2]
          have HT := Lib.hid (fixL_take k 9 hlt hx)
          clear hx hat
          have d0 : decide ((k : Int) < 288) = true := by simp; omega
          have dc1 : decide ((k : Int) < 144) = false := by simp; omega
          have dc2 : decide ((k : Int) < 256) = true := by simp; omega
          have HLT := Lib.hid hlt
          clear hlt hk c1 c2
          have hsrc := src_int wr 9
          have H1 := Lib.hid (HO.out.alloc (.cells #[Value.int .i64 9] 3))
          go_wp2_with (at_builtin; refine wpl_append tyI rfl _ _ rfl H1.out hsrc rfl rfl (by have := HLT.out; omega) (by have := HLT.out; omega) (by simp; omega) ?_)
          intro v2 w2 own2 hg2 _
          have hb2 : Below w.heap.size w w2 := (hb.alloc hz _).grown hg2 (by simp; omega) (fun k hk => (H1.out.lt k hk).1)
          rw [← ivs_append, ← HT.out] at own2
          have hlt := HLT.out
          have H2 := Lib.hid own2
          clear own2 hg2 hsrc H1 HO hb
          go_wp2
          go_roundw
          case rel => exact ⟨k + 1, by have := HLT.out; omega, by go_num, hb2, H2⟩
          case measure => have := HLT.out; simp [intOf]; omega
        · by_cases c3 : k < 280
          · have hx : fixL.getD k 0 = 7 := by rw [hat]; rw [if_neg c1, if_neg c2, if_pos c3]
            have HT := Lib.hid (fixL_take k 7 hlt hx)
            clear hx hat
            have d0 : decide ((k : Int) < 288) = true := by simp; omega
            have dc1 : decide ((k : Int) < 144) = false := by simp; omega
            have dc2 : decide ((k : Int) < 256) = false := by simp; omega
            have dc3 : decide ((k : Int) < 280) = true := by simp; omega
            have HLT := Lib.hid hlt
            clear hlt hk c1 c2 c3
            have hsrc := src_int wr 7
            have H1 := Lib.hid (HO.out.alloc (.cells #[Value.int .i64 7] 3))
            go_wp2_with (at_builtin; refine wpl_append tyI rfl _ _ rfl H1.out hsrc rfl rfl (by have := HLT.out; omega) (by have := HLT.out; omega) (by simp; omega) ?_)
            intro v2 w2 own2 hg2 _
            have hb2 : Below w.heap.size w w2 := (hb.alloc hz _).grown hg2 (by simp; omega) (fun k hk => (H1.out.lt k hk).1)
            rw [← ivs_append, ← HT.out] at own2
            have hlt := HLT.out
            have H2 := Lib.hid own2
            clear own2 hg2 hsrc H1 HO hb
            go_wp2
            go_roundw
            case rel => exact ⟨k + 1, by have := HLT.out; omega, by go_num, hb2, H2⟩
            case measure => have := HLT.out; simp [intOf]; omega
          · have hx : fixL.getD k 0 = 8 := by rw [hat]; rw [if_neg c1, if_neg c2, if_neg c3]
            have HT := Lib.hid (fixL_take k 8 hlt hx)
            clear hx hat
            have d0 : decide ((k : Int) < 288) = true := by simp; omega
            have dc1 : decide ((k : Int) < 144) = false := by simp; omega
            have dc2 : decide ((k : Int) < 256) = false := by simp; omega
            have dc3 : decide ((k : Int) < 280) = false := by simp; omega
            have HLT := Lib.hid hlt
            clear hlt hk c1 c2 c3
            have hsrc := src_int wr 8
            have H1 := Lib.hid (HO.out.alloc (.cells #[Value.int .i64 8] 3))
            go_wp2_with (at_builtin; refine wpl_append tyI rfl _ _ rfl H1.out hsrc rfl rfl (by have := HLT.out; omega) (by have := HLT.out; omega) (by simp; omega) ?_)
            intro v2 w2 own2 hg2 _
            have hb2 : Below w.heap.size w w2 := (hb.alloc hz _).grown hg2 (by simp; omega) (fun k hk => (H1.out.lt k hk).1)
            rw [← ivs_append, ← HT.out] at own2
            have hlt := HLT.out
            have H2 := Lib.hid own2
            clear own2 hg2 hsrc H1 HO hb
            go_wp2
            go_roundw
            case rel => exact ⟨k + 1, by have := HLT.out; omega, by go_num, hb2, H2⟩
            case measure => have := HLT.out; simp [intOf]; omega
    · obtain rfl : k = 288 := by omega
      have HL := Lib.hid HO.out
      clear HO hlt hk
      generalize wr = w1 at *
      generalize u2 = v1 at *
      go_wp2
      go_loopw [4, 5] (fun v i wr => ∃ k : Nat, k ≤ 32 ∧ i = .int .i64 k ∧ Below w.heap.size w wr ∧ Hid (wr.ownsRow w.heap.size 3 1 v1 288 (ivs (fixL.take 288)) ∧ wr.ownsRow w1.heap.size 3 1 v k (ivs (fixD.take k)) ∧ Below w1.heap.size w1 wr)) (fun _ i _ => 32 - (intOf i).toNat)
      case atStart => exact ⟨0, by omega, rfl, hb, Lib.hid ⟨HL.out, World.ownsRow_nil _ _ _ _, Below.refl _ _⟩⟩
      case round =>
        obtain ⟨k, hk, rfl, hb2, HK⟩ := hrel
        by_cases hlt2 : k < 32
        · have HLT := Lib.hid hlt2
          have d0 : decide ((k : Int) < 32) = true := by simp; omega
          have HT := Lib.hid (fixD_take k hlt2)
          have hz2 := HK.out.2.2.size
          have hsrc := src_int wr 5
          have H1 := Lib.hid (HK.out.2.1.alloc (.cells #[Value.int .i64 5] 3))
          have HA := Lib.hid (own_below HK.out.1 (below_alloc wr (.cells #[Value.int .i64 5] 3)))
          have HN := Lib.hid (hb2.size)
          clear hlt2 hk
          go_wp2_with (at_builtin; refine wpl_append tyI rfl _ _ rfl H1.out hsrc rfl rfl (by have := HLT.out; omega) (by have := HLT.out; omega) (by simp; omega) ?_)
          intro v2 w2 own2 hg2 _
          have hb3 : Below w1.heap.size w1 w2 := (HK.out.2.2.alloc hz2 _).grown hg2 (by simp; omega) (fun k hk => (H1.out.lt k hk).1)
          rw [← ivs_append, ← HT.out] at own2
          have H2 := Lib.hid (And.intro (own_below HL.out hb3) (And.intro own2 hb3))
          have hb4 := below_then hb hb3
          have hlt2 := HLT.out
          clear own2 hg2 hsrc H1 HA HK hb2 hb3
          go_wp2
          go_roundw
          case rel => exact ⟨_, _, _, _, _, _, _, _, _, ⟨k + 1, by omega, by go_num, hb4, H2⟩, rfl⟩
          case measure => simp [intOf]; omega
        · obtain rfl : k = 32 := by omega
          go_wp2
          go_ret2
          have e1 : fixL.take 288 = fixL := by decide +kernel
          have e2 : fixD.take 32 = fixD := by decide +kernel
          refine ⟨_, _, rfl, by rw [← e1]; exact HK.out.1, ?_, hb2⟩
          rw [← e2]
          exact own_base HK.out.2.1 (fun k hk => Nat.le_trans hb.size (HK.out.2.1.lt k hk).1)
end Go.Proofs.YtfgpmccmalddjaaDoor
end
