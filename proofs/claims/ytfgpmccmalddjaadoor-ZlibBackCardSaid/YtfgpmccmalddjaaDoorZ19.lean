/- (*sequence).grow: its contract. A slice of ints, cut off. -/
import Derived.Test.YtfgpmccmalddjaaDoorZ18
set_option linter.unusedSimpArgs false
set_option linter.unusedVariables false
section
namespace Go.Proofs.YtfgpmccmalddjaaDoor
open Go.RowKit
set_option linter.unusedSimpArgs false
set_option linter.unusedVariables false
attribute [local go_sem] Oper.semAt_some

namespace Ip
theorem above_up {b x : Nat} {u : List Bool} {p n q : Nat} (h : aboveP b x true u p = .ok n q) (hx : x ≤ 9) (hb : 1 ≤ b ∧ b ≤ 100) : 1 ≤ n ∧ n ≤ 1000 := by
  have h1 := above_bound h
  have h2 : 2 ^ x ≤ 2 ^ 9 := Nat.pow_le_pow_right (by omega) hx
  omega
theorem runP_bound {y : Int} {ls : List Int} {u : List Bool} {p q : Nat} {x : Int × Nat} (h : runP y ls u p = .ok x q) (hy : 0 ≤ y ∧ y ≤ 1000000) (hl : ∀ z ∈ ls, 0 ≤ z ∧ z ≤ 1000000) : (0 ≤ x.1 ∧ x.1 ≤ 1000000) ∧ 1 ≤ x.2 ∧ x.2 ≤ 1000 := by
  unfold runP at h
  split at h
  · split at h
    · cases h
    · rename_i hne
      cases h1 : aboveP 3 2 true u p with
      | err n => rw [bind_err h1] at h; cases h
      | ok c r =>
        rw [bind_ok h1] at h
        cases h
        refine ⟨?_, above_up h1 (by omega) (by omega)⟩
        have hlt : ls.length - 1 < ls.length := by
          have : ls.length ≠ 0 := fun e => hne (List.eq_nil_of_length_eq_zero e)
          omega
        have := hl _ (List.getElem_mem hlt)
        rw [List.getD, List.getElem?_eq_getElem hlt]
        exact this
  · split at h
    · cases h1 : aboveP 3 3 true u p with
      | err n => rw [bind_err h1] at h; cases h
      | ok c r =>
        rw [bind_ok h1] at h
        cases h
        exact ⟨⟨Int.le_refl 0, by show (0 : Int) ≤ 1000000; omega⟩, above_up h1 (by omega) (by omega)⟩
    · split at h
      · cases h1 : aboveP 11 7 true u p with
        | err n => rw [bind_err h1] at h; cases h
        | ok c r =>
          rw [bind_ok h1] at h
          cases h
          exact ⟨⟨Int.le_refl 0, by show (0 : Int) ≤ 1000000; omega⟩, above_up h1 (by omega) (by omega)⟩
      · cases h
        exact ⟨hy, Nat.le_refl 1, by show 1 ≤ 1000; omega⟩
end Ip
/-- What grow answers. -/
def GwPost (w : World) (F D : Nat → Prop) (B gr gb gs gk : Nat) (p5 p6 : Value) (bs : List UInt8) (most : Nat) (ls : Bool) (s : Unp) (R : Nat → List Nat) (size n : Nat) (r : Ip.Rs (List Int)) (e : Ending) (w' : World) : Prop :=
  match r with
  | .ok l q => e = .returned .nilIface ∧ (∃ D' v, (∀ k, D k → D' k) ∧ (∀ k, D' k → D k ∨ w.heap.size ≤ k) ∧ Sq w' F D' B gr gb gs gk p5 p6 bs q most ls s R v l size) ∧ l.length ≤ size ∧ n ≤ l.length ∧ Ch w w' (fun k => ¬ F k)
  | .err n => (n == 0) = false ∧ e = .returned (.iface 39 (.int .i64 n)) ∧ Ch w w' (fun k => ¬ F k)
section
variable {w : World} {F D : Nat → Prop} {B gr gb gs gk p most : Nat} {p5 p6 : Value} {bs : List UInt8} {ls : Bool} {s : Unp} {R : Nat → List Nat} {v : Value} {l : List Int} {size : Nat}
/-- The lengths have grown. -/
theorem Sq.grown {w1 w2 w' : World} {D : Nat → Prop} {v v' : Value} {l l' : List Int} (h : Sq w1 F D B gr gb gs gk p5 p6 bs p most ls s R v l size) (hb : Below w1.heap.size w1 w2) (c : Ch w2 w' (fun k => v.ownBlock = some k)) (hn : ∀ k, v'.ownBlock = some k → v.ownBlock = some k ∨ w2.heap.size ≤ k)
    (hown : w'.ownsRow B 3 1 v' l'.length (ivs l')) (hwf : ∀ x ∈ l', 0 ≤ x ∧ x ≤ 1000000) :
    Sq (w'.setCell ⟨gs, 2, none⟩ v') F (fun k => D k ∨ (w1.heap.size ≤ k ∧ k < w'.heap.size)) B gr gb gs gk p5 p6 bs p most ls s R v' l' size ∧ Ch w1 (w'.setCell ⟨gs, 2, none⟩ v') (fun k => ¬ F k) ∧ w'.cell? ⟨gs, 2, none⟩ = some v ∧ w'.frozen? ⟨gs, 2, none⟩ = false := by
  have z1 := hb.size
  have z2 := c.size
  have hgs := (Array.getElem?_eq_some_iff.1 h.row).1
  have cD : Ch w1 w' D := (Ch.of_below (T := D) hb).trans c (fun k hk => .inl (h.vd k hk).1)
  have r1 : w'.heap[gs]? = some (.cells #[.pointer (some ⟨gr, 0, none⟩), .pointer (some ⟨gk, 0, none⟩), v, .int .i64 (size : Nat)] 176 (0, 0)) :=
    (c.block gs (by omega) (fun e => (h.vd gs e).2 rfl)).trans ((hb.block gs hgs).trans h.row)
  have cs : Ch w' (w'.setCell ⟨gs, 2, none⟩ v') (fun k => k = gs) := (Ch.refl w' (fun k => k = gs)).set (p := ⟨gs, 2, none⟩) (.inl rfl) v'
  have hsz : (w'.setCell ⟨gs, 2, none⟩ v').heap.size = w'.heap.size := by simp
  have cF : Ch w1 (w'.setCell ⟨gs, 2, none⟩ v') (fun k => ¬ F k) :=
    ((Ch.of_below (T := fun k => ¬ F k) hb).trans c (fun k hk => .inl (fun hf => (h.fd k hf).2.2 hk))).trans cs (fun k hk => .inl (fun hf => (h.fd k hf).2.1 hk))
  refine ⟨⟨(h.ir.keep cD).touch cs (.inl h.dg), heap_setCell_same w' gs 2 _ _ _ r1, .inl h.dg, fun k hk => ?_, h.bz.kept cF (fun k hk hn => hn hk), cs.own hown (fun k hk e => ?_), fun k hk => ?_, hwf⟩, cF, ?_, frozen_of_row _ _ _ _ _ r1⟩
  · obtain ⟨d1, d2, d3⟩ := h.fd k hk
    refine ⟨.inl d1, d2, fun e => ?_⟩
    rcases hn k e with e | e
    · exact d3 e
    · have : k < w1.heap.size := by
        obtain ⟨vb, cs, v0, vl, kk⟩ := h.ir
        exact (kk.nd k d1).1
      omega
  · rcases hn k hk with e2 | e2
    · exact (h.vd k e2).2 e
    · omega
  · rcases hn k hk with e2 | e2
    · exact ⟨.inl (h.vd k e2).1, (h.vd k e2).2⟩
    · exact ⟨.inr ⟨by omega, (hown.lt k hk).2⟩, by omega⟩
  · rw [cell_of_row _ _ _ _ _ (0, 0) r1]; rfl
set_option maxRecDepth 100000 in
set_option maxHeartbeats 8000000 in
theorem seqGrow_any (h : Sq w F D B gr gb gs gk p5 p6 bs p most ls s R v l size) (hG : Bk.Good R) (hS : ∀ c ∈ Bk.ks R, 0 ≤ c.1 ∧ c.1 ≤ 1000000) (n : Nat) (hn : n ≤ size) (hsz : size ≤ 500) (hl : l.length ≤ size) :
    Calls Tryd.prog 99 #[.pointer (some ⟨gs, 0, none⟩), .int .i64 (n : Nat)] w (GwPost w F D B gr gb gs gk p5 p6 bs most ls s R size n (Ip.growP R size n l (lob bs) p)) := by
  have HG := Lib.hid hG
  have HSS := Lib.hid hS
  have HS : Hid (Sq w F D B gr gb gs gk p5 p6 bs p most ls s R v l size ∧ (∀ k, D k → D k) ∧ (∀ k, D k → D k ∨ w.heap.size ≤ k) ∧ Ch w w (fun k => ¬ F k) ∧ size < l.length + 1000 ∧ Ip.growP R size n l (lob bs) p = Ip.loop (Ip.growStep R size n) 1000 l (lob bs) p) := Lib.hid ⟨h, fun _ h => h, fun _ h => .inl h, Ch.refl _ _, by omega, rfl⟩
  clear h hG hS
  go_enter Tryd.func99, Tryd.ntmps99
  go_wp2
  go_loopg [] (1000 - l.length) (fun gk2 wr => ∃ (q : Nat) (D2 : Nat → Prop) (v2 : Value) (l2 : List Int) (f : Nat), gk2 = 1000 - l2.length ∧ l2.length ≤ size ∧ Hid (Sq wr F D2 B gr gb gs gk p5 p6 bs q most ls s R v2 l2 size ∧ (∀ k, D k → D2 k) ∧ (∀ k, D2 k → D k ∨ w.heap.size ≤ k) ∧ Ch w wr (fun k => ¬ F k) ∧ size < l2.length + f ∧ Ip.growP R size n l (lob bs) p = Ip.loop (Ip.growStep R size n) f l2 (lob bs) q))
  case atStart => exact ⟨p, D, v, l, 1000, rfl, hl, HS⟩
  case round =>
    obtain ⟨q, D2, v2, l2, f, rfl, hl2, HK⟩ := hrel
    have hf := HK.out.2.2.2.2.1
    obtain ⟨f, rfl⟩ : ∃ f', f = f' + 1 := ⟨f - 1, by omega⟩
    have HSP : Hid (Ip.growP R size n l (lob bs) p = Ip.bind (Ip.growStep R size n l2) (Ip.next (Ip.loop (Ip.growStep R size n) f)) (lob bs) q) := Lib.hid (by rw [HK.out.2.2.2.2.2]; rfl)
    have HS2 : Hid (Sq wr F D2 B gr gb gs gk p5 p6 bs q most ls s R v2 l2 size ∧ (∀ k, D k → D2 k) ∧ (∀ k, D2 k → D k ∨ w.heap.size ≤ k) ∧ Ch w wr (fun k => ¬ F k) ∧ size < l2.length + (f + 1)) := Lib.hid ⟨HK.out.1, HK.out.2.1, HK.out.2.2.1, HK.out.2.2.2.1, HK.out.2.2.2.2.1⟩
    obtain ⟨a2, c2, rfl⟩ := own_slice0 HS2.out.1.own
    have k2 := HS2.out.1.cells.2.2.1
    clear HK hf
    by_cases hln : l2.length < n
    · have HSG : Hid (Ip.growP R size n l (lob bs) p = Ip.bind (Ip.bind (Ip.rdP R) fun y => Ip.bind (Ip.runP y l2) (Ip.growK size l2)) (Ip.next (Ip.loop (Ip.growStep R size n) f)) (lob bs) q) := Lib.hid (by
        rw [HSP.out]; unfold Ip.growStep; rw [if_neg (by omega)])
      clear HSP
      cases hx : Ip.rdP R (lob bs) q with
      | err m =>
        have HX : Hid (Ip.growP R size n l (lob bs) p = .err m) := Lib.hid (by rw [HSG.out]; exact Ip.bind2_err hx)
        go_wp2_with fail
        have hs1 := HS2.out.1.mono (dn_is wr 1)
        have t0 := hs1.cells.1
        have t1 := hs1.cells.2.1
        have g0 := hs1.ir.cell
        have hbz := hs1.bz.wide (G := D2) (fun k hk => (hs1.fd k hk).1)
        have HRD := Lib.hid (irReadC hs1.ir hbz HG.out)
        rw [hx] at HRD
        have HS1 := Lib.hid hs1
        clear hs1 hbz
        refine wp_region_noPanic ?_
        refine region_J 16 (fun w' => w'.cell? ⟨gs, 0, none⟩ = some (.pointer (some ⟨gr, 0, none⟩)) ∧ w'.cell? ⟨gs, 1, none⟩ = some (.pointer (some ⟨gk, 0, none⟩)) ∧ w'.cell? ⟨gr, 0, none⟩ = some (.pointer (some ⟨gb, 0, none⟩))) (by kernel_rfl) ?_
        refine J_take (i := 0) (v := ?_) rfl (by kernel_rfl) (by kernel_rfl) (by kernel_rfl) (by kernel_rfl) (fun _ _ _ h => h) ⟨t0, t1, g0⟩ (by rfl) ?_ ?_
        rotate_left
        · (intro w' hw'; obtain ⟨j0, j1, j2⟩ := hw'; first | (go_simp; done) | (go_simp; with_reducible rfl))
        try simp only [Act.put, List.setIfInBounds_toArray, List.set_cons_zero, List.set_cons_succ]
        refine J_take (i := 1) (v := ?_) rfl (by kernel_rfl) (by kernel_rfl) (by kernel_rfl) (by kernel_rfl) (fun _ _ _ h => h) ⟨t0, t1, g0⟩ (by rfl) ?_ ?_
        rotate_left
        · (intro w' hw'; obtain ⟨j0, j1, j2⟩ := hw'; first | (go_simp; done) | (go_simp; with_reducible rfl))
        try simp only [Act.put, List.setIfInBounds_toArray, List.set_cons_zero, List.set_cons_succ]
        refine J_take (i := 2) (v := ?_) rfl (by kernel_rfl) (by kernel_rfl) (by kernel_rfl) (by kernel_rfl) (fun _ _ _ h => h) ⟨t0, t1, g0⟩ (by rfl) ?_ ?_
        rotate_left
        · (intro w' hw'; obtain ⟨j0, j1, j2⟩ := hw'; first | (go_simp; done) | (go_simp; with_reducible rfl))
        try simp only [Act.put, List.setIfInBounds_toArray, List.set_cons_zero, List.set_cons_succ]
        refine J_take (i := 3) (v := ?_) rfl (by kernel_rfl) (by kernel_rfl) (by kernel_rfl) (by kernel_rfl) (fun _ _ _ h => h) ⟨t0, t1, g0⟩ (by rfl) ?_ ?_
        rotate_left
        · (intro w' hw'; obtain ⟨j0, j1, j2⟩ := hw'; first | (go_simp; done) | (go_simp; with_reducible rfl))
        try simp only [Act.put, List.setIfInBounds_toArray, List.set_cons_zero, List.set_cons_succ]
        refine J_take (i := 4) (v := ?_) rfl (by kernel_rfl) (by kernel_rfl) (by kernel_rfl) (by kernel_rfl) (fun _ _ _ h => h) ⟨t0, t1, g0⟩ (by rfl) ?_ ?_
        rotate_left
        · (intro w' hw'; obtain ⟨j0, j1, j2⟩ := hw'; first | (go_simp; done) | (go_simp; with_reducible rfl))
        try simp only [Act.put, List.setIfInBounds_toArray, List.set_cons_zero, List.set_cons_succ]
        refine J_take (i := 5) (v := ?_) rfl (by kernel_rfl) (by kernel_rfl) (by kernel_rfl) (by kernel_rfl) (fun _ _ _ h => h) ⟨t0, t1, g0⟩ (by rfl) ?_ ?_
        rotate_left
        · (intro w' hw'; obtain ⟨j0, j1, j2⟩ := hw'; first | (go_simp; done) | (go_simp; with_reducible rfl))
        try simp only [Act.put, List.setIfInBounds_toArray, List.set_cons_zero, List.set_cons_succ]
        refine J_take (i := 6) (v := ?_) rfl (by kernel_rfl) (by kernel_rfl) (by kernel_rfl) (by kernel_rfl) (fun _ _ _ h => h) ⟨t0, t1, g0⟩ (by rfl) ?_ ?_
        rotate_left
        · (intro w' hw'; obtain ⟨j0, j1, j2⟩ := hw'; first | (go_simp; done) | (go_simp; with_reducible rfl))
        try simp only [Act.put, List.setIfInBounds_toArray, List.set_cons_zero, List.set_cons_succ]
        refine J_take (i := 7) (v := ?_) rfl (by kernel_rfl) (by kernel_rfl) (by kernel_rfl) (by kernel_rfl) (fun _ _ _ h => h) ⟨t0, t1, g0⟩ (by rfl) ?_ ?_
        rotate_left
        · (intro w' hw'; obtain ⟨j0, j1, j2⟩ := hw'; first | (go_simp; done) | (go_simp; with_reducible rfl))
        try simp only [Act.put, List.setIfInBounds_toArray, List.set_cons_zero, List.set_cons_succ]
        refine J_take (i := 8) (v := ?_) rfl (by kernel_rfl) (by kernel_rfl) (by kernel_rfl) (by kernel_rfl) (fun _ _ _ h => h) ⟨t0, t1, g0⟩ (by rfl) ?_ ?_
        rotate_left
        · (intro w' hw'; obtain ⟨j0, j1, j2⟩ := hw'; first | (go_simp; done) | (go_simp; with_reducible rfl))
        try simp only [Act.put, List.setIfInBounds_toArray, List.set_cons_zero, List.set_cons_succ]
        refine J_take (i := 9) (v := ?_) rfl (by kernel_rfl) (by kernel_rfl) (by kernel_rfl) (by kernel_rfl) (fun _ _ _ h => h) ⟨t0, t1, g0⟩ (by rfl) ?_ ?_
        rotate_left
        · (intro w' hw'; obtain ⟨j0, j1, j2⟩ := hw'; first | (go_simp; done) | (go_simp; with_reducible rfl))
        try simp only [Act.put, List.setIfInBounds_toArray, List.set_cons_zero, List.set_cons_succ]
        refine J_take (i := 10) (v := ?_) rfl (by kernel_rfl) (by kernel_rfl) (by kernel_rfl) (by kernel_rfl) (fun _ _ _ h => h) ⟨t0, t1, g0⟩ (by rfl) ?_ ?_
        rotate_left
        · (intro w' hw'; obtain ⟨j0, j1, j2⟩ := hw'; first | (go_simp; done) | (go_simp; with_reducible rfl))
        try simp only [Act.put, List.setIfInBounds_toArray, List.set_cons_zero, List.set_cons_succ]
        refine J_step (i := 11) (by kernel_rfl) rfl (fun K hK => ?_)
        go_simp
        go_at_call 95
        refine HRD.out.mono ?_
        rintro e w3 ⟨⟨hn3, ⟨xx, rfl⟩, hch3⟩, g3⟩
        have hr3 := (hch3.block gs (Array.getElem?_eq_some_iff.1 HS1.out.row).1 (fun hn => hn HS1.out.dg)).trans HS1.out.row
        have u0 : w3.cell? ⟨gs, 0, none⟩ = some (.pointer (some ⟨gr, 0, none⟩)) := by rw [cell_of_row _ _ _ _ _ (0, 0) hr3]; rfl
        have u1 : w3.cell? ⟨gs, 1, none⟩ = some (.pointer (some ⟨gk, 0, none⟩)) := by rw [cell_of_row _ _ _ _ _ (0, 0) hr3]; rfl
        have HC3 : Hid (Ch w w3 (fun k => ¬ F k)) := Lib.hid ((HS2.out.2.2.2.1.trans (ch_below (T := fun _ => False) (dn_is wr 1)) (fun _ h => h.elim)).trans hch3 (fun n hn => .inl (fun hf => hn (HS1.out.fd n hf).1)))
        go_simp
        refine hK.out _ _ (fun _ => ⟨u0, u1, g3⟩) (fun _ => ?_)
        clear hK K
        try simp only [Act.put, List.setIfInBounds_toArray, List.set_cons_zero, List.set_cons_succ]
        refine J_take (i := 12) (v := ?_) rfl (by kernel_rfl) (by kernel_rfl) (by kernel_rfl) (by kernel_rfl) (fun _ _ _ h => h) ⟨u0, u1, g3⟩ (by rfl) ?_ ?_
        rotate_left
        · (intro w' hw'; obtain ⟨j0, j1, j2⟩ := hw'; first | (go_simp; done) | (go_simp; with_reducible rfl))
        try simp only [Act.put, List.setIfInBounds_toArray, List.set_cons_zero, List.set_cons_succ]
        refine J_take (i := 13) (v := ?_) rfl (by kernel_rfl) (by kernel_rfl) (by kernel_rfl) (by kernel_rfl) (fun _ _ _ h => h) ⟨u0, u1, g3⟩ (by rfl) ?_ ?_
        rotate_left
        · (intro w' hw'; obtain ⟨j0, j1, j2⟩ := hw'; first | (go_simp; done) | (go_simp; with_reducible rfl))
        try simp only [Act.put, List.setIfInBounds_toArray, List.set_cons_zero, List.set_cons_succ]
        refine J_take (i := 14) (v := ?_) rfl (by kernel_rfl) (by kernel_rfl) (by kernel_rfl) (by kernel_rfl) (fun _ _ _ h => h) ⟨u0, u1, g3⟩ (by rfl) ?_ ?_
        rotate_left
        · (intro w' hw'; obtain ⟨j0, j1, j2⟩ := hw'; first | (go_simp; done) | (go_simp; with_reducible rfl))
        try simp only [Act.put, List.setIfInBounds_toArray, List.set_cons_zero, List.set_cons_succ]
        refine J_take (i := 15) (v := ?_) rfl (by kernel_rfl) (by kernel_rfl) (by kernel_rfl) (by kernel_rfl) (fun _ _ _ h => h) ⟨u0, u1, g3⟩ (by rfl) ?_ ?_
        rotate_left
        · (intro w' hw'; obtain ⟨j0, j1, j2⟩ := hw'; first | (go_simp; done) | (go_simp; with_reducible rfl))
        try simp only [Act.put, List.setIfInBounds_toArray, List.set_cons_zero, List.set_cons_succ]
        refine J_step (i := 16) (by kernel_rfl) rfl (fun K hK => ?_)
        go_simp
        refine hK.out _ _ (fun h => absurd rfl h) (fun _ => ?_)
        clear hK K
        try simp only [Act.put, List.setIfInBounds_toArray, List.set_cons_zero, List.set_cons_succ]
        refine J_done (by kernel_rfl) ?_ _
        refine NoPanic.normal ?_
        have HP : Hid (GwPost w F D B gr gb gs gk p5 p6 bs most ls s R size n (Ip.growP R size n l (lob bs) p) (.returned (.iface 39 (.int .i64 m))) w3) := Lib.hid (by rw [HX.out]; exact ⟨hn3, rfl, HC3.out⟩)
        clear HC3 hr3 u0 u1 g3 hn3 hx t0 t1 g0 k2 hch3
        go_wp2
        go_ret
        exact HP.out
      | ok y r =>
        have hyr := Ip.rdP_sym HSS.out hx
        have HSY : Hid (Ip.growP R size n l (lob bs) p = Ip.bind (Ip.bind (Ip.runP y l2) (Ip.growK size l2)) (Ip.next (Ip.loop (Ip.growStep R size n) f)) (lob bs) r) := Lib.hid (by rw [HSG.out]; exact Ip.bind2_ok hx)
        go_wp2_with fail
        have hs1 := HS2.out.1.mono (dn_is wr 1)
        have t0 := hs1.cells.1
        have t1 := hs1.cells.2.1
        have g0 := hs1.ir.cell
        have hbz := hs1.bz.wide (G := D2) (fun k hk => (hs1.fd k hk).1)
        have HRD := Lib.hid (irReadC hs1.ir hbz HG.out)
        rw [hx] at HRD
        have HS1 := Lib.hid hs1
        clear hs1 hbz
        refine wp_region_noPanic ?_
        refine region_J 16 (fun w' => w'.cell? ⟨gs, 0, none⟩ = some (.pointer (some ⟨gr, 0, none⟩)) ∧ w'.cell? ⟨gs, 1, none⟩ = some (.pointer (some ⟨gk, 0, none⟩)) ∧ w'.cell? ⟨gr, 0, none⟩ = some (.pointer (some ⟨gb, 0, none⟩))) (by kernel_rfl) ?_
        refine J_take (i := 0) (v := ?_) rfl (by kernel_rfl) (by kernel_rfl) (by kernel_rfl) (by kernel_rfl) (fun _ _ _ h => h) ⟨t0, t1, g0⟩ (by rfl) ?_ ?_
        rotate_left
        · (intro w' hw'; obtain ⟨j0, j1, j2⟩ := hw'; first | (go_simp; done) | (go_simp; with_reducible rfl))
        try simp only [Act.put, List.setIfInBounds_toArray, List.set_cons_zero, List.set_cons_succ]
        refine J_take (i := 1) (v := ?_) rfl (by kernel_rfl) (by kernel_rfl) (by kernel_rfl) (by kernel_rfl) (fun _ _ _ h => h) ⟨t0, t1, g0⟩ (by rfl) ?_ ?_
        rotate_left
        · (intro w' hw'; obtain ⟨j0, j1, j2⟩ := hw'; first | (go_simp; done) | (go_simp; with_reducible rfl))
        try simp only [Act.put, List.setIfInBounds_toArray, List.set_cons_zero, List.set_cons_succ]
        refine J_take (i := 2) (v := ?_) rfl (by kernel_rfl) (by kernel_rfl) (by kernel_rfl) (by kernel_rfl) (fun _ _ _ h => h) ⟨t0, t1, g0⟩ (by rfl) ?_ ?_
        rotate_left
        · (intro w' hw'; obtain ⟨j0, j1, j2⟩ := hw'; first | (go_simp; done) | (go_simp; with_reducible rfl))
        try simp only [Act.put, List.setIfInBounds_toArray, List.set_cons_zero, List.set_cons_succ]
        refine J_take (i := 3) (v := ?_) rfl (by kernel_rfl) (by kernel_rfl) (by kernel_rfl) (by kernel_rfl) (fun _ _ _ h => h) ⟨t0, t1, g0⟩ (by rfl) ?_ ?_
        rotate_left
        · (intro w' hw'; obtain ⟨j0, j1, j2⟩ := hw'; first | (go_simp; done) | (go_simp; with_reducible rfl))
        try simp only [Act.put, List.setIfInBounds_toArray, List.set_cons_zero, List.set_cons_succ]
        refine J_take (i := 4) (v := ?_) rfl (by kernel_rfl) (by kernel_rfl) (by kernel_rfl) (by kernel_rfl) (fun _ _ _ h => h) ⟨t0, t1, g0⟩ (by rfl) ?_ ?_
        rotate_left
        · (intro w' hw'; obtain ⟨j0, j1, j2⟩ := hw'; first | (go_simp; done) | (go_simp; with_reducible rfl))
        try simp only [Act.put, List.setIfInBounds_toArray, List.set_cons_zero, List.set_cons_succ]
        refine J_take (i := 5) (v := ?_) rfl (by kernel_rfl) (by kernel_rfl) (by kernel_rfl) (by kernel_rfl) (fun _ _ _ h => h) ⟨t0, t1, g0⟩ (by rfl) ?_ ?_
        rotate_left
        · (intro w' hw'; obtain ⟨j0, j1, j2⟩ := hw'; first | (go_simp; done) | (go_simp; with_reducible rfl))
        try simp only [Act.put, List.setIfInBounds_toArray, List.set_cons_zero, List.set_cons_succ]
        refine J_take (i := 6) (v := ?_) rfl (by kernel_rfl) (by kernel_rfl) (by kernel_rfl) (by kernel_rfl) (fun _ _ _ h => h) ⟨t0, t1, g0⟩ (by rfl) ?_ ?_
        rotate_left
        · (intro w' hw'; obtain ⟨j0, j1, j2⟩ := hw'; first | (go_simp; done) | (go_simp; with_reducible rfl))
        try simp only [Act.put, List.setIfInBounds_toArray, List.set_cons_zero, List.set_cons_succ]
        refine J_take (i := 7) (v := ?_) rfl (by kernel_rfl) (by kernel_rfl) (by kernel_rfl) (by kernel_rfl) (fun _ _ _ h => h) ⟨t0, t1, g0⟩ (by rfl) ?_ ?_
        rotate_left
        · (intro w' hw'; obtain ⟨j0, j1, j2⟩ := hw'; first | (go_simp; done) | (go_simp; with_reducible rfl))
        try simp only [Act.put, List.setIfInBounds_toArray, List.set_cons_zero, List.set_cons_succ]
        refine J_take (i := 8) (v := ?_) rfl (by kernel_rfl) (by kernel_rfl) (by kernel_rfl) (by kernel_rfl) (fun _ _ _ h => h) ⟨t0, t1, g0⟩ (by rfl) ?_ ?_
        rotate_left
        · (intro w' hw'; obtain ⟨j0, j1, j2⟩ := hw'; first | (go_simp; done) | (go_simp; with_reducible rfl))
        try simp only [Act.put, List.setIfInBounds_toArray, List.set_cons_zero, List.set_cons_succ]
        refine J_take (i := 9) (v := ?_) rfl (by kernel_rfl) (by kernel_rfl) (by kernel_rfl) (by kernel_rfl) (fun _ _ _ h => h) ⟨t0, t1, g0⟩ (by rfl) ?_ ?_
        rotate_left
        · (intro w' hw'; obtain ⟨j0, j1, j2⟩ := hw'; first | (go_simp; done) | (go_simp; with_reducible rfl))
        try simp only [Act.put, List.setIfInBounds_toArray, List.set_cons_zero, List.set_cons_succ]
        refine J_take (i := 10) (v := ?_) rfl (by kernel_rfl) (by kernel_rfl) (by kernel_rfl) (by kernel_rfl) (fun _ _ _ h => h) ⟨t0, t1, g0⟩ (by rfl) ?_ ?_
        rotate_left
        · (intro w' hw'; obtain ⟨j0, j1, j2⟩ := hw'; first | (go_simp; done) | (go_simp; with_reducible rfl))
        try simp only [Act.put, List.setIfInBounds_toArray, List.set_cons_zero, List.set_cons_succ]
        refine J_step (i := 11) (by kernel_rfl) rfl (fun K hK => ?_)
        go_simp
        go_at_call 95
        refine HRD.out.mono ?_
        rintro e w3 ⟨⟨rfl, hir3, hch3⟩, g3⟩
        have hr3 := (hch3.block gs (Array.getElem?_eq_some_iff.1 HS1.out.row).1 (fun hn => hn HS1.out.dg)).trans HS1.out.row
        have u0 : w3.cell? ⟨gs, 0, none⟩ = some (.pointer (some ⟨gr, 0, none⟩)) := by rw [cell_of_row _ _ _ _ _ (0, 0) hr3]; rfl
        have u1 : w3.cell? ⟨gs, 1, none⟩ = some (.pointer (some ⟨gk, 0, none⟩)) := by rw [cell_of_row _ _ _ _ _ (0, 0) hr3]; rfl
        have HC3 : Hid (Ch w w3 (fun k => ¬ F k)) := Lib.hid ((HS2.out.2.2.2.1.trans (ch_below (T := fun _ => False) (dn_is wr 1)) (fun _ h => h.elim)).trans hch3 (fun n hn => .inl (fun hf => hn (HS1.out.fd n hf).1)))
        go_simp
        refine hK.out _ _ (fun _ => ⟨u0, u1, g3⟩) (fun _ => ?_)
        clear hK K
        try simp only [Act.put, List.setIfInBounds_toArray, List.set_cons_zero, List.set_cons_succ]
        refine J_take (i := 12) (v := ?_) rfl (by kernel_rfl) (by kernel_rfl) (by kernel_rfl) (by kernel_rfl) (fun _ _ _ h => h) ⟨u0, u1, g3⟩ (by rfl) ?_ ?_
        rotate_left
        · (intro w' hw'; obtain ⟨j0, j1, j2⟩ := hw'; first | (go_simp; done) | (go_simp; with_reducible rfl))
        try simp only [Act.put, List.setIfInBounds_toArray, List.set_cons_zero, List.set_cons_succ]
        refine J_take (i := 13) (v := ?_) rfl (by kernel_rfl) (by kernel_rfl) (by kernel_rfl) (by kernel_rfl) (fun _ _ _ h => h) ⟨u0, u1, g3⟩ (by rfl) ?_ ?_
        rotate_left
        · (intro w' hw'; obtain ⟨j0, j1, j2⟩ := hw'; first | (go_simp; done) | (go_simp; with_reducible rfl))
        try simp only [Act.put, List.setIfInBounds_toArray, List.set_cons_zero, List.set_cons_succ]
        refine J_take (i := 14) (v := ?_) rfl (by kernel_rfl) (by kernel_rfl) (by kernel_rfl) (by kernel_rfl) (fun _ _ _ h => h) ⟨u0, u1, g3⟩ (by rfl) ?_ ?_
        rotate_left
        · (intro w' hw'; obtain ⟨j0, j1, j2⟩ := hw'; first | (go_simp; done) | (go_simp; with_reducible rfl))
        try simp only [Act.put, List.setIfInBounds_toArray, List.set_cons_zero, List.set_cons_succ]
        refine J_take (i := 15) (v := ?_) rfl (by kernel_rfl) (by kernel_rfl) (by kernel_rfl) (by kernel_rfl) (fun _ _ _ h => h) ⟨u0, u1, g3⟩ (by rfl) ?_ ?_
        rotate_left
        · (intro w' hw'; obtain ⟨j0, j1, j2⟩ := hw'; first | (go_simp; done) | (go_simp; with_reducible rfl))
        try simp only [Act.put, List.setIfInBounds_toArray, List.set_cons_zero, List.set_cons_succ]
        refine J_step (i := 16) (by kernel_rfl) rfl (fun K hK => ?_)
        go_simp
        refine hK.out _ _ (fun h => absurd rfl h) (fun _ => ?_)
        clear hK K
        try simp only [Act.put, List.setIfInBounds_toArray, List.set_cons_zero, List.set_cons_succ]
        refine J_done (by kernel_rfl) ?_ _
        refine NoPanic.normal ?_
        have HS3 := Lib.hid (HS1.out.next hir3 hch3)
        have HRN := Lib.hid (run_any HS3.out y (by omega))
        clear hr3 u0 u1 g3 hx t0 t1 g0 k2 hch3 hir3 HS1 HRD HSG
        go_wp2_with fail
        refine HRN.out.mono ?_
        cases hy : Ip.runP y l2 (lob bs) r with
        | err m =>
          rintro e w4 ⟨hm, ⟨x1, x2, rfl⟩, hch4⟩
          have HP : Hid (GwPost w F D B gr gb gs gk p5 p6 bs most ls s R size n (Ip.growP R size n l (lob bs) p) (.returned (.iface 39 (.int .i64 m))) w4) := Lib.hid (by
            rw [HSY.out, Ip.bind2_err hy]; exact ⟨hm, rfl, HC3.out.trans hch4 (fun n hn => .inl (fun hf => hn (HS3.out.fd n hf).1))⟩)
          clear hm hch4 hy HRN HSY
          go_wp2
          go_ret
          exact HP.out
        | ok x t =>
          obtain ⟨vl, c⟩ := x
          rintro e w4 ⟨rfl, hir4, hch4⟩
          have hbd := Ip.runP_bound hy hyr HS3.out.wf
          have HSK : Hid (Ip.growP R size n l (lob bs) p = Ip.bind (Ip.growK size l2 (vl, c)) (Ip.next (Ip.loop (Ip.growStep R size n) f)) (lob bs) t) := Lib.hid (by rw [HSY.out]; exact Ip.bind2_ok hy)
          have HS4 := Lib.hid (HS3.out.next hir4 hch4)
          have HC4 : Hid (Ch w w4 (fun k => ¬ F k)) := Lib.hid (HC3.out.trans hch4 (fun n hn => .inl (fun hf => hn (HS3.out.fd n hf).1)))
          have k2 := HS4.out.cells.2.2.1
          have k3 := HS4.out.cells.2.2.2
          dsimp only at hbd
          obtain ⟨hv, hc1, hc2⟩ := hbd
          clear hir4 hch4 hy HRN HSY HC3 HS3 hyr
          dsimp only
          by_cases hfit : size - l2.length < c
          · have hd : decide (((size : Nat) : Int) - ((l2.length : Nat) : Int) < ((c : Nat) : Int)) = true := by simp; omega
            have HP : Hid (∀ m, GwPost w F D B gr gb gs gk p5 p6 bs most ls s R size n (Ip.growP R size n l (lob bs) p) (.returned (.iface 39 (.int .i64 2))) (w4.drewN m)) := Lib.hid (fun m => by
              rw [HSK.out]; unfold Ip.growK; rw [if_pos hfit]
              exact ⟨by decide, rfl, HC4.out.trans (Ch.of_below (T := fun _ => False) (dn_is w4 m)) (fun n hn => hn.elim)⟩)
            clear HSK HS4 HC4
            go_wp2_with fail
            go_quiet (fail)
            go_wp2
            go_ret
            exact HP.out _
          · have hd : decide (((size : Nat) : Int) - ((l2.length : Nat) : Int) < ((c : Nat) : Int)) = false := by simp; omega
            have HSN : Hid (Ip.growP R size n l (lob bs) p = Ip.loop (Ip.growStep R size n) f (l2 ++ List.replicate c vl) (lob bs) t) := Lib.hid (by
              rw [HSK.out]; unfold Ip.growK; rw [if_neg hfit]; rfl)
            clear HSK
            go_wp2_with fail
            go_quiet (fail)
            rename_i nq
            have HS5 := Lib.hid (HS4.out.mono (dn_is w4 nq))
            have HC5 : Hid (Ch w (w4.drewN nq) (fun k => ¬ F k)) := Lib.hid (HC4.out.trans (Ch.of_below (T := fun _ => False) (dn_is w4 nq)) (fun n hn => hn.elim))
            clear HS4 HC4 k2 k3 hd
            revert HS5 HC5
            generalize w4.drewN nq = w5
            intro HS5 HC5
            go_wp2_with fail
            have HB6 := Lib.hid (show Below w5.heap.size w5 w5.drew from dn_is w5 1)
            have hs6 := HS5.out.mono HB6.out
            have s2 := hs6.cells.2.2.1
            have z56 : w5.drew.heap.size = w5.heap.size := rfl
            refine wp_region_noPanic ?_
            refine region_J 12 (fun w' => w'.cell? ⟨gs, 2, none⟩ = some (.slice a2 l2.length c2)) (by kernel_rfl) ?_
            refine J_take (i := 0) (v := ?_) rfl (by kernel_rfl) (by kernel_rfl) (by kernel_rfl) (by kernel_rfl) (fun _ _ _ h => h) s2 (by rfl) ?_ ?_
            rotate_left
            · (intro w' hw'; have j0 := hw'; first | (go_simp; done) | (go_simp; with_reducible rfl))
            try simp only [Act.put, List.setIfInBounds_toArray, List.set_cons_zero, List.set_cons_succ]
            refine J_take (i := 1) (v := ?_) rfl (by kernel_rfl) (by kernel_rfl) (by kernel_rfl) (by kernel_rfl) (fun _ _ _ h => h) s2 (by rfl) ?_ ?_
            rotate_left
            · (intro w' hw'; have j0 := hw'; first | (go_simp; done) | (go_simp; with_reducible rfl))
            try simp only [Act.put, List.setIfInBounds_toArray, List.set_cons_zero, List.set_cons_succ]
            refine J_take (i := 2) (v := ?_) rfl (by kernel_rfl) (by kernel_rfl) (by kernel_rfl) (by kernel_rfl) (fun _ _ _ h => h) s2 (by rfl) ?_ ?_
            rotate_left
            · (intro w' hw'; have j0 := hw'; first | (go_simp; done) | (go_simp; with_reducible rfl))
            try simp only [Act.put, List.setIfInBounds_toArray, List.set_cons_zero, List.set_cons_succ]
            refine J_take (i := 3) (v := ?_) rfl (by kernel_rfl) (by kernel_rfl) (by kernel_rfl) (by kernel_rfl) (fun _ _ _ h => h) s2 (by rfl) ?_ ?_
            rotate_left
            · (intro w' hw'; have j0 := hw'; first | (go_simp; done) | (go_simp; with_reducible rfl))
            try simp only [Act.put, List.setIfInBounds_toArray, List.set_cons_zero, List.set_cons_succ]
            refine J_take (i := 4) (v := ?_) rfl (by kernel_rfl) (by kernel_rfl) (by kernel_rfl) (by kernel_rfl) (fun _ _ _ h => h) s2 (by rfl) ?_ ?_
            rotate_left
            · (intro w' hw'; have j0 := hw'; first | (go_simp; done) | (go_simp; with_reducible rfl))
            try simp only [Act.put, List.setIfInBounds_toArray, List.set_cons_zero, List.set_cons_succ]
            refine J_take (i := 5) (v := ?_) rfl (by kernel_rfl) (by kernel_rfl) (by kernel_rfl) (by kernel_rfl) (fun _ _ _ h => h) s2 (by rfl) ?_ ?_
            rotate_left
            · (intro w' hw'; have j0 := hw'; first | (go_simp; done) | (go_simp; with_reducible rfl))
            try simp only [Act.put, List.setIfInBounds_toArray, List.set_cons_zero, List.set_cons_succ]
            refine J_take (i := 7) (v := ?_) rfl (by kernel_rfl) (by kernel_rfl) (by kernel_rfl) (by kernel_rfl) (fun _ _ _ h => h) s2 (by rfl) ?_ ?_
            rotate_left
            · (intro w' hw'; have j0 := hw'; first | (go_simp; done) | (go_simp; with_reducible rfl))
            try simp only [Act.put, List.setIfInBounds_toArray, List.set_cons_zero, List.set_cons_succ]
            refine J_step (i := 6) (by kernel_rfl) rfl (fun K hK => ?_)
            go_simp
            have hal : Below w5.heap.size w5 (w5.alloc (.cells #[.int .i64 vl] 3)).drew := (below_alloc w5 _).trans ((dn_is _ 1).mono (by simp))
            have hgs5 := (Array.getElem?_eq_some_iff.1 HS5.out.row).1
            have k0 := (hal.cell (p := ⟨gs, 2, none⟩) hgs5).trans HS5.out.cells.2.2.1
            refine hK.out _ _ (fun _ => k0) (fun _ => ?_)
            clear hK K
            try simp only [Act.put, List.setIfInBounds_toArray, List.set_cons_zero, List.set_cons_succ]
            refine J_step (i := 8) (by kernel_rfl) rfl (fun K hK => ?_)
            go_simp
            go_at_call 91
            have c8 : (w5.alloc (.cells #[.int .i64 vl] 3)).drew.cell? ⟨w5.heap.size, 0, none⟩ = some (.int .i64 vl) := by
              rw [cell_of_row _ _ _ _ _ (0, 0) (show (w5.alloc (.cells #[.int .i64 vl] 3)).drew.heap[w5.heap.size]? = _ from heap_alloc_last w5 _)]; rfl
            refine (repeat_any w5.heap.size vl c _ c8 (by show w5.heap.size < (w5.alloc (.cells #[.int .i64 vl] 3)).heap.size; simp) (by omega)).mono ?_
            rintro e w7 ⟨v7, rfl, hown7, hb7⟩
            have hb57 := below_then hal hb7
            obtain ⟨a7, c7, rfl, hi7⟩ := own_is hown7 (by intro m hm; rw [List.eq_of_mem_replicate hm]; exact wf_int hv)
            have k7 := (hb57.cell (p := ⟨gs, 2, none⟩) hgs5).trans HS5.out.cells.2.2.1
            go_simp
            refine hK.out _ _ (fun _ => k7) (fun _ => ?_)
            clear hK K
            try simp only [Act.put, List.setIfInBounds_toArray, List.set_cons_zero, List.set_cons_succ]
            obtain ⟨ad7, rfl⟩ : ∃ ad, a7 = some ad := by
              obtain ⟨b, off, e, _⟩ := hi7.at' 0 (by omega)
              exact ⟨_, e⟩
            have hbB : B ≤ w7.heap.size := by
              obtain ⟨vb, cs, v0, vl0, kk⟩ := HS5.out.ir
              have := hb57.size
              have := kk.hB
              omega
            refine J_step (i := 9) (by kernel_rfl) rfl (fun K hK => ?_)
            refine step_app tyI rfl _ _ rfl (own_below HS5.out.own hb57) hi7.src rfl rfl (by omega) (by omega) (by omega) hbB ?_
            intro v8 w8 own8 st8
            have cc8 := Ch.step st8
            have ff8 := st8.block
            rw [← ivs_append] at own8
            have hl8 : (l2 ++ List.replicate c vl).length = l2.length + c := by rw [List.length_append, List.length_replicate]
            rw [← hl8] at own8
            obtain ⟨s9, hc9, hcell9, hfr9⟩ := HS5.out.grown hb57 cc8 ff8 own8 (fun x hx => by
              rcases List.mem_append.1 hx with hx | hx
              · exact HS5.out.wf x hx
              · rw [List.eq_of_mem_replicate hx]; exact hv)
            have z8 := cc8.size
            have z57 := hb57.size
            obtain ⟨a8, c8', rfl⟩ := own_slice0 own8
            have HF : Hid (Sq (w8.setCell ⟨gs, 2, none⟩ (.slice a8 (l2 ++ List.replicate c vl).length c8')) F (fun k => D2 k ∨ (w5.heap.size ≤ k ∧ k < w8.heap.size)) B gr gb gs gk p5 p6 bs t most ls s R (.slice a8 (l2 ++ List.replicate c vl).length c8') (l2 ++ List.replicate c vl) size ∧ (∀ k, D k → D2 k ∨ (w5.heap.size ≤ k ∧ k < w8.heap.size)) ∧ (∀ k, D2 k ∨ (w5.heap.size ≤ k ∧ k < w8.heap.size) → D k ∨ w.heap.size ≤ k) ∧ Ch w (w8.setCell ⟨gs, 2, none⟩ (.slice a8 (l2 ++ List.replicate c vl).length c8')) (fun k => ¬ F k) ∧ size < (l2 ++ List.replicate c vl).length + f ∧ Ip.growP R size n l (lob bs) p = Ip.loop (Ip.growStep R size n) f (l2 ++ List.replicate c vl) (lob bs) t) := Lib.hid ⟨s9, fun k hk => .inl (HS2.out.2.1 k hk), fun k hk => by
              rcases hk with hk | ⟨hk, _⟩
              · exact HS2.out.2.2.1 k hk
              · exact .inr (Nat.le_trans HC5.out.size hk), HC5.out.trans hc9 (fun n hn => .inl hn), by have := HS2.out.2.2.2.2; omega, HSN.out⟩
            rw [hl8] at HF
            rw [hl8]
            refine hK.out _ _ (fun _ => hcell9) (fun _ => ?_)
            clear hK K own8 st8 ff8 cc8 s9 hc9
            try simp only [Act.put, List.setIfInBounds_toArray, List.set_cons_zero, List.set_cons_succ]
            refine J_step (i := 10) (by kernel_rfl) rfl (fun K hK => ?_)
            go_simp
            refine hK.out _ _ (fun _ => hcell9) (fun _ => ?_)
            clear hK K
            try simp only [Act.put, List.setIfInBounds_toArray, List.set_cons_zero, List.set_cons_succ]
            refine J_step (i := 11) (by kernel_rfl) rfl (fun K hK => ?_)
            go_simp
            refine hK.out _ _ (fun _ => hcell9) (fun _ => ?_)
            clear hK K
            try simp only [Act.put, List.setIfInBounds_toArray, List.set_cons_zero, List.set_cons_succ]
            refine J_step (i := 12) (by kernel_rfl) rfl (fun K hK => ?_)
            go_simp
            refine hK.out _ _ (fun h => absurd rfl h) (fun _ => ?_)
            clear hK K
            try simp only [Act.put, List.setIfInBounds_toArray, List.set_cons_zero, List.set_cons_succ]
            refine J_done (by kernel_rfl) ?_ _
            refine NoPanic.normal ?_
            have hle8 : l2.length + c ≤ size := by omega
            clear hcell9 hfr9 k7 k0 hi7 hown7
            go_wp2
            go_roundg (1000 - (l2.length + c))
            case rel => exact ⟨t, _, _, l2 ++ List.replicate c vl, f, by rw [hl8], by rw [hl8]; exact hle8, by rw [hl8]; exact HF⟩
            case measure => omega
    · have HX : Hid (Ip.growP R size n l (lob bs) p = .ok l2 q) := Lib.hid (by
        rw [HSP.out]; unfold Ip.growStep; rw [if_pos (by omega)]; rfl)
      have HP : Hid (GwPost w F D B gr gb gs gk p5 p6 bs most ls s R size n (Ip.growP R size n l (lob bs) p) (.returned .nilIface) wr) := Lib.hid (by
        rw [HX.out]
        exact ⟨rfl, ⟨D2, _, HS2.out.2.1, HS2.out.2.2.1, HS2.out.1⟩, hl2, by omega, HS2.out.2.2.2.1⟩)
      clear HSP
      go_wp2
      go_ret
      exact HP.out
end
end Go.Proofs.YtfgpmccmalddjaaDoor
end

section
namespace Go.Proofs.YtfgpmccmalddjaaDoor
open Go.RowKit

theorem Is.pre {k : IntKind} {w : World} {a : Option Addr} {len cap : Nat} {l : List Int} (h : Is k w a len cap l) (n : Nat) (hn : n ≤ len) : Is k w a n cap (l.take n) := by
  have h1 := h.hlen
  have h2 := h.hle
  refine ⟨by simp; omega, by omega, h.hnil, fun i hi => ?_, fun x hx => h.wf x (List.mem_of_mem_take hx)⟩
  obtain ⟨b, off, e, hb, hc⟩ := h.at' i (by omega)
  refine ⟨b, off, e, hb, ?_⟩
  rw [hc]
  simp [List.getD, List.getElem?_take, hi]
theorem Is.suf {k : IntKind} {w : World} {b off len cap : Nat} {l : List Int} (h : Is k w (some ⟨b, off, none⟩) len cap l) (n : Nat) (hn : n ≤ len) : Is k w (some ⟨b, off + n, none⟩) (len - n) (cap - n) (l.drop n) := by
  have h1 := h.hlen
  have h2 := h.hle
  refine ⟨by simp; omega, by omega, fun e => (by cases e), fun i hi => ?_, fun x hx => h.wf x (List.mem_of_mem_drop hx)⟩
  obtain ⟨b', off', e, hb, hc⟩ := h.at' (n + i) (by omega)
  simp only [Option.some.injEq, Addr.mk.injEq, and_true] at e
  obtain ⟨rfl, rfl⟩ := e
  refine ⟨b, off + n, rfl, hb, ?_⟩
  rw [Nat.add_assoc, hc]
  simp [List.getD, List.getElem?_drop]
theorem Is.none0 {k : IntKind} (w : World) (a : Option Addr) (cap : Nat) (h : a = none → cap = 0) : Is k w a 0 cap [] := ⟨rfl, Nat.zero_le _, h, fun i hi => absurd hi (by omega), fun n hn => by simp at hn⟩
end Go.Proofs.YtfgpmccmalddjaaDoor
end
