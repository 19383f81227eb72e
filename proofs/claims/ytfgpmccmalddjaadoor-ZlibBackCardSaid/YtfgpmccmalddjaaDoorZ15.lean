/- (*reader).symbols: its contract. -/
import Derived.Test.YtfgpmccmalddjaaDoorZ14
set_option linter.unusedSimpArgs false
set_option linter.unusedVariables false
section
namespace Go.Proofs.YtfgpmccmalddjaaDoor
open Go.RowKit
set_option linter.unusedSimpArgs false
set_option linter.unusedVariables false

namespace Ip
/-- More rounds than there are bits. -/
def big : Nat := 10000000000
def symK (most : Nat) (RD : Nat → List Nat) (s : Unp) (y : Int) : Pr (Unp ⊕ Unp) :=
  if y = 256 then pure (.inr s) else if 256 < y then bind (matchP RD y) (fun t => bind (addP most t s) fun s' => pure (.inl s')) else bind (addP most (0, y) s) (fun s' => pure (.inl s'))
def symStep (most : Nat) (RL RD : Nat → List Nat) (s : Unp) : Pr (Unp ⊕ Unp) := bind (rdP RL) (symK most RD s)
def symsP (most : Nat) (RL RD : Nat → List Nat) (s : Unp) : Pr Unp := loop (symStep most RL RD) big s
theorem take_lt {c : Nat} {u : List Bool} {p n q : Nat} (h : take c u p = .ok n q) : n < 2 ^ c := by
  unfold take at h
  split at h
  · cases h
    have h1 := Bt.num_lt false ((u.drop p).take c)
    have h2 : ((u.drop p).take c).length ≤ c := by rw [List.length_take]; omega
    exact Nat.lt_of_lt_of_le h1 (Nat.pow_le_pow_right (by omega) h2)
  · cases h
theorem above_bound {b x : Nat} {ok : Bool} {u : List Bool} {p n q : Nat} (h : aboveP b x ok u p = .ok n q) : b ≤ n ∧ n < b + 2 ^ x := by
  unfold aboveP at h
  split at h
  · unfold bind at h
    split at h
    · rename_i m r hm
      have := take_lt hm
      cases h; omega
    · cases h
  · cases h
theorem lb_out : ∀ p, p < 29 → 3 ≤ (Sy.lb p).1 ∧ (Sy.lb p).1 + 2 ^ (Sy.lb p).2 ≤ 259 := by decide +kernel
theorem db_out : ∀ p, p < 30 → 1 ≤ (Sy.db p).1 ∧ (Sy.db p).1 + 2 ^ (Sy.db p).2 ≤ 32769 := by decide +kernel
theorem take_le {c : Nat} {u : List Bool} {p n q : Nat} (h : take c u p = .ok n q) : p ≤ q := by
  unfold take at h
  split at h
  · cases h; omega
  · cases h
theorem above_le {b x : Nat} {ok : Bool} {u : List Bool} {p n q : Nat} (h : aboveP b x ok u p = .ok n q) : p ≤ q := by
  unfold aboveP at h
  split at h
  · unfold bind at h
    split at h
    · rename_i m r hm
      have := take_le hm
      cases h; exact this
    · cases h
  · cases h
theorem matchP_le {R : Nat → List Nat} {y : Int} {u : List Bool} {p q : Nat} {t : Tok} (h : matchP R y u p = .ok t q) : p ≤ q := by
  unfold matchP at h
  unfold bind at h
  split at h
  · rename_i n r hn
    change bind (rdP R) (fun z => bind (distP z) fun d => pure (((n : Nat) : Int), ((d : Nat) : Int))) u r = .ok t q at h
    unfold bind at h
    split at h
    · rename_i z r2 hz
      change bind (distP z) (fun d => pure (((n : Nat) : Int), ((d : Nat) : Int))) u r2 = .ok t q at h
      unfold bind at h
      split at h
      · rename_i d r3 hd
        cases h
        have h1 : p ≤ r := by
          unfold lenP at hn
          split at hn <;> exact above_le hn
        have h2 : r ≤ r2 := by
          unfold rdP at hz
          split at hz
          · cases hz; omega
          · cases hz
        have h3 : r2 ≤ q := by
          unfold distP at hd
          split at hd <;> exact above_le hd
        omega
      · cases h
    · cases h
  · cases h
theorem matchP_tok {R : Nat → List Nat} {y : Int} {u : List Bool} {p q : Nat} {t : Tok} (h : matchP R y u p = .ok t q) : Tk.isTok t = true := by
  unfold matchP at h
  unfold bind at h
  split at h
  · rename_i n r hn
    change bind (rdP R) (fun z => bind (distP z) fun d => pure (((n : Nat) : Int), ((d : Nat) : Int))) u r = .ok t q at h
    unfold bind at h
    split at h
    · rename_i z r2 hz
      change bind (distP z) (fun d => pure (((n : Nat) : Int), ((d : Nat) : Int))) u r2 = .ok t q at h
      unfold bind at h
      split at h
      · rename_i d r3 hd
        cases h
        have h1 : 3 ≤ n ∧ n ≤ 258 := by
          unfold lenP at hn
          split at hn
          · have k1 := above_bound hn
            have k2 := lb_out (y - 257).toNat (by omega)
            omega
          · cases hn
        have h2 : 1 ≤ d ∧ d ≤ 32768 := by
          unfold distP at hd
          split at hd
          · have k1 := above_bound hd
            have k2 := db_out z.toNat (by omega)
            omega
          · cases hd
        unfold Tk.isTok
        rw [if_neg (by dsimp only; omega)]
        exact decide_eq_true ⟨by dsimp only; omega, by dsimp only; omega, by dsimp only; omega, by dsimp only; omega⟩
      · cases h
    · cases h
  · cases h
end Ip
section
variable {w : World} {D : Nat → Prop} {B gr gb p most : Nat} {p5 p6 : Value} {bs : List UInt8} {ls : Bool} {s : Unp}
theorem Ir.place (h : Ir w D B gr gb p5 p6 bs p most ls s) : p ≤ 8 * bs.length ∧ bs.length ≤ 1000000000 := by
  obtain ⟨vb, cs, v, vl, h⟩ := h
  exact ⟨h.hp, h.hbl⟩
set_option maxRecDepth 100000 in
set_option maxHeartbeats 8000000 in
theorem symbols_any (h : Ir w D B gr gb p5 p6 bs p most ls s) {gL gD : Nat} {RL RD : Nat → List Nat} (hbL : Bz w D gL RL) (hbD : Bz w D gD RD) (hGL : Bk.Good RL) (hGD : Bk.Good RD) (hSL : ∀ c ∈ Bk.ks RL, 0 ≤ c.1 ∧ c.1 ≤ 1000000) (hSD : ∀ c ∈ Bk.ks RD, 0 ≤ c.1 ∧ c.1 ≤ 1000000) :
    Calls Tryd.prog 85 #[.pointer (some ⟨gr, 0, none⟩), .agg #[.pointer (some ⟨gL, 0, none⟩), .pointer (some ⟨gD, 0, none⟩)]] w (IrPost w D B gr gb p5 p6 bs most ls (Ip.symsP most RL RD s (lob bs) p)) := by
  have hb1 := below_alloc w (.cells #[.pointer (some ⟨gL, 0, none⟩), .pointer (some ⟨gD, 0, none⟩)] 118)
  have hz1 : (w.alloc (.cells #[.pointer (some ⟨gL, 0, none⟩), .pointer (some ⟨gD, 0, none⟩)] 118)).heap.size = w.heap.size + 1 := by simp
  have HROW := Lib.hid (heap_alloc_last w (.cells #[.pointer (some ⟨gL, 0, none⟩), .pointer (some ⟨gD, 0, none⟩)] 118))
  have HIR := Lib.hid (h.new hb1)
  have HBL := Lib.hid ((hbL.kept (Ch.of_below (T := fun _ => False) hb1) (fun _ _ h => h)).wide (G := fun k => D k ∨ (w.heap.size ≤ k ∧ k < (w.alloc (.cells #[.pointer (some ⟨gL, 0, none⟩), .pointer (some ⟨gD, 0, none⟩)] 118)).heap.size)) (fun k hk => .inl hk))
  have HBD := Lib.hid ((hbD.kept (Ch.of_below (T := fun _ => False) hb1) (fun _ _ h => h)).wide (G := fun k => D k ∨ (w.heap.size ≤ k ∧ k < (w.alloc (.cells #[.pointer (some ⟨gL, 0, none⟩), .pointer (some ⟨gD, 0, none⟩)] 118)).heap.size)) (fun k hk => .inl hk))
  have HB1 := Lib.hid hb1
  have HGL := Lib.hid hGL
  have HGD := Lib.hid hGD
  have HSL := Lib.hid hSL
  have HSD := Lib.hid hSD
  have hpl := h.place
  have HSY : Hid (∃ f, 8 * bs.length - p < f ∧ Ip.symsP most RL RD s (lob bs) p = Ip.loop (Ip.symStep most RL RD) f s (lob bs) p) := Lib.hid ⟨Ip.big, by unfold Ip.big; omega, rfl⟩
  clear h hb1 hbL hbD hGL hGD hSL hSD
  go_enter Tryd.func85, Tryd.ntmps85
  go_wp2
  revert hz1 HROW HIR HBL HBD HB1
  generalize World.alloc _ _ = w1
  intro hz1 HROW HIR HBL HBD HB1
  obtain ⟨D1, hDD⟩ : ∃ D1 : Nat → Prop, D1 = fun k => D k ∨ (w.heap.size ≤ k ∧ k < w1.heap.size) := ⟨_, rfl⟩
  have HOUT := Lib.hid (fun w2 (c : Ch w1 w2 (fun k => ¬ D1 k)) => ch_out HB1.out (by rw [hDD] at c; exact c))
  have hD1 : D1 w.heap.size := by rw [hDD]; exact .inr ⟨Nat.le_refl _, by omega⟩
  have hDl : ∀ k, D k → D1 k := fun k hk => by rw [hDD]; exact .inl hk
  rw [← hDD] at HIR HBL HBD
  clear hDD
  have HS : Hid (Ir w1 D1 B gr gb p5 p6 bs p most ls s ∧ Ch w1 w1 (fun k => ¬ D1 k) ∧ ∃ f, 8 * bs.length - p < f ∧ Ip.symsP most RL RD s (lob bs) p = Ip.loop (Ip.symStep most RL RD) f s (lob bs) p) := Lib.hid ⟨HIR.out, Ch.refl _ _, HSY.out⟩
  have HROW1 := Lib.hid HROW.out
  clear HIR HSY HROW
  go_loopg [] (8 * bs.length - p) (fun gk wr => ∃ q s2, gk = 8 * bs.length - q ∧ Hid (Ir wr D1 B gr gb p5 p6 bs q most ls s2 ∧ Ch w1 wr (fun k => ¬ D1 k) ∧ ∃ f, 8 * bs.length - q < f ∧ Ip.symsP most RL RD s (lob bs) p = Ip.loop (Ip.symStep most RL RD) f s2 (lob bs) q))
  case atStart => exact ⟨p, s, rfl, HS⟩
  case round =>
    obtain ⟨q, s2, rfl, HK⟩ := hrel
    obtain ⟨hir, hch, f, hf, hsp⟩ := HK.out
    obtain ⟨f, rfl⟩ : ∃ f', f = f' + 1 := ⟨f - 1, by omega⟩
    have HIR := Lib.hid hir
    have HCH := Lib.hid hch
    have HSP : Hid (Ip.symsP most RL RD s (lob bs) p = Ip.bind (Ip.symStep most RL RD s2) (Ip.next (Ip.loop (Ip.symStep most RL RD) f)) (lob bs) q) := Lib.hid (by rw [hsp]; rfl)
    have hqp := hir.place
    have HROW : Hid (wr.heap[w.heap.size]? = some (.cells #[.pointer (some ⟨gL, 0, none⟩), .pointer (some ⟨gD, 0, none⟩)] 118 (0, 0))) := Lib.hid ((hch.block w.heap.size (by omega) (fun hk => hk hD1)).trans HROW1.out)
    have HBL1 := Lib.hid ((HBL.out.kept hch (fun k hk hn => hn hk)).kept (ch_below (T := fun _ => False) (dn_is wr 1)) (fun _ _ h => h))
    clear hir hch hsp HK
    cases hx : Ip.rdP RL (lob bs) q with
    | err n =>
      have HX : Hid (Ip.symsP most RL RD s (lob bs) p = .err n) := Lib.hid (by rw [HSP.out]; exact Ip.bind2_err hx)
      go_wp2_with fail
      have HRD1 := Lib.hid (irReadC (HIR.out.mono (dn_is wr 1)) HBL1.out HGL.out)
      rw [hx] at HRD1
      have g0 : wr.drew.cell? ⟨gr, 0, none⟩ = some (.pointer (some ⟨gb, 0, none⟩)) := (HIR.out.mono (dn_is wr 1)).cell
      have t0 : wr.drew.cell? ⟨w.heap.size, 0, none⟩ = some (.pointer (some ⟨gL, 0, none⟩)) := by rw [cell_of_row _ _ _ _ _ (0, 0) (show wr.drew.heap[w.heap.size]? = _ from HROW.out)]; rfl
      refine wp_region_noPanic ?_
      refine region_J 11 (fun w' => w'.cell? ⟨w.heap.size, 0, none⟩ = some (.pointer (some ⟨gL, 0, none⟩)) ∧ w'.cell? ⟨gr, 0, none⟩ = some (.pointer (some ⟨gb, 0, none⟩))) (by kernel_rfl) ?_
      refine J_take (i := 0) (v := ?_) rfl (by kernel_rfl) (by kernel_rfl) (by kernel_rfl) (by kernel_rfl) (fun _ _ _ h => h) ⟨t0, g0⟩ (by rfl) ?_ ?_
      rotate_left
      · (intro w' hw'; obtain ⟨j0, j1⟩ := hw'; first | (go_simp; done) | (go_simp; with_reducible rfl))
      try simp only [Act.put, List.setIfInBounds_toArray, List.set_cons_zero, List.set_cons_succ]
      refine J_take (i := 1) (v := ?_) rfl (by kernel_rfl) (by kernel_rfl) (by kernel_rfl) (by kernel_rfl) (fun _ _ _ h => h) ⟨t0, g0⟩ (by rfl) ?_ ?_
      rotate_left
      · (intro w' hw'; obtain ⟨j0, j1⟩ := hw'; first | (go_simp; done) | (go_simp; with_reducible rfl))
      try simp only [Act.put, List.setIfInBounds_toArray, List.set_cons_zero, List.set_cons_succ]
      refine J_take (i := 2) (v := ?_) rfl (by kernel_rfl) (by kernel_rfl) (by kernel_rfl) (by kernel_rfl) (fun _ _ _ h => h) ⟨t0, g0⟩ (by rfl) ?_ ?_
      rotate_left
      · (intro w' hw'; obtain ⟨j0, j1⟩ := hw'; first | (go_simp; done) | (go_simp; with_reducible rfl))
      try simp only [Act.put, List.setIfInBounds_toArray, List.set_cons_zero, List.set_cons_succ]
      refine J_take (i := 3) (v := ?_) rfl (by kernel_rfl) (by kernel_rfl) (by kernel_rfl) (by kernel_rfl) (fun _ _ _ h => h) ⟨t0, g0⟩ (by rfl) ?_ ?_
      rotate_left
      · (intro w' hw'; obtain ⟨j0, j1⟩ := hw'; first | (go_simp; done) | (go_simp; with_reducible rfl))
      try simp only [Act.put, List.setIfInBounds_toArray, List.set_cons_zero, List.set_cons_succ]
      refine J_take (i := 4) (v := ?_) rfl (by kernel_rfl) (by kernel_rfl) (by kernel_rfl) (by kernel_rfl) (fun _ _ _ h => h) ⟨t0, g0⟩ (by rfl) ?_ ?_
      rotate_left
      · (intro w' hw'; obtain ⟨j0, j1⟩ := hw'; first | (go_simp; done) | (go_simp; with_reducible rfl))
      try simp only [Act.put, List.setIfInBounds_toArray, List.set_cons_zero, List.set_cons_succ]
      refine J_take (i := 5) (v := ?_) rfl (by kernel_rfl) (by kernel_rfl) (by kernel_rfl) (by kernel_rfl) (fun _ _ _ h => h) ⟨t0, g0⟩ (by rfl) ?_ ?_
      rotate_left
      · (intro w' hw'; obtain ⟨j0, j1⟩ := hw'; first | (go_simp; done) | (go_simp; with_reducible rfl))
      try simp only [Act.put, List.setIfInBounds_toArray, List.set_cons_zero, List.set_cons_succ]
      refine J_step (i := 6) (by kernel_rfl) rfl (fun K hK => ?_)
      go_simp
      go_at_call 95
      refine HRD1.out.mono ?_
      rintro e w3 ⟨⟨hn, ⟨xx, rfl⟩, hch3⟩, g3⟩
      have HC3 : Hid (Ch w1 w3 (fun k => ¬ D1 k)) := Lib.hid ((HCH.out.trans (ch_below (T := fun _ => False) (dn_is wr 1)) (fun _ h => h.elim)).trans hch3 (fun n hn => .inl hn))
      have hrow3 : w3.heap[w.heap.size]? = some (.cells #[.pointer (some ⟨gL, 0, none⟩), .pointer (some ⟨gD, 0, none⟩)] 118 (0, 0)) := (hch3.block w.heap.size (by have := (Array.getElem?_eq_some_iff.1 HROW.out).1; exact this) (fun hk => hk hD1)).trans HROW.out
      have t3 : w3.cell? ⟨w.heap.size, 0, none⟩ = some (.pointer (some ⟨gL, 0, none⟩)) := by rw [cell_of_row _ _ _ _ _ (0, 0) hrow3]; rfl
      go_simp
      refine hK.out _ _ (fun _ => ⟨t3, g3⟩) (fun _ => ?_)
      clear hK K
      try simp only [Act.put, List.setIfInBounds_toArray, List.set_cons_zero, List.set_cons_succ]
      refine J_take (i := 7) (v := ?_) rfl (by kernel_rfl) (by kernel_rfl) (by kernel_rfl) (by kernel_rfl) (fun _ _ _ h => h) ⟨t3, g3⟩ (by rfl) ?_ ?_
      rotate_left
      · (intro w' hw'; obtain ⟨j0, j1⟩ := hw'; first | (go_simp; done) | (go_simp; with_reducible rfl))
      try simp only [Act.put, List.setIfInBounds_toArray, List.set_cons_zero, List.set_cons_succ]
      refine J_take (i := 8) (v := ?_) rfl (by kernel_rfl) (by kernel_rfl) (by kernel_rfl) (by kernel_rfl) (fun _ _ _ h => h) ⟨t3, g3⟩ (by rfl) ?_ ?_
      rotate_left
      · (intro w' hw'; obtain ⟨j0, j1⟩ := hw'; first | (go_simp; done) | (go_simp; with_reducible rfl))
      try simp only [Act.put, List.setIfInBounds_toArray, List.set_cons_zero, List.set_cons_succ]
      refine J_take (i := 9) (v := ?_) rfl (by kernel_rfl) (by kernel_rfl) (by kernel_rfl) (by kernel_rfl) (fun _ _ _ h => h) ⟨t3, g3⟩ (by rfl) ?_ ?_
      rotate_left
      · (intro w' hw'; obtain ⟨j0, j1⟩ := hw'; first | (go_simp; done) | (go_simp; with_reducible rfl))
      try simp only [Act.put, List.setIfInBounds_toArray, List.set_cons_zero, List.set_cons_succ]
      refine J_take (i := 10) (v := ?_) rfl (by kernel_rfl) (by kernel_rfl) (by kernel_rfl) (by kernel_rfl) (fun _ _ _ h => h) ⟨t3, g3⟩ (by rfl) ?_ ?_
      rotate_left
      · (intro w' hw'; obtain ⟨j0, j1⟩ := hw'; first | (go_simp; done) | (go_simp; with_reducible rfl))
      try simp only [Act.put, List.setIfInBounds_toArray, List.set_cons_zero, List.set_cons_succ]
      refine J_step (i := 11) (by kernel_rfl) rfl (fun K hK => ?_)
      go_simp
      refine hK.out _ _ (fun h => absurd rfl h) (fun _ => ?_)
      clear hK K
      try simp only [Act.put, List.setIfInBounds_toArray, List.set_cons_zero, List.set_cons_succ]
      refine J_done (by kernel_rfl) ?_ _
      refine NoPanic.normal ?_
      have HP : Hid (IrPost w D B gr gb p5 p6 bs most ls (Ip.symsP most RL RD s (lob bs) p) (.returned (.iface 39 (.int .i64 n))) w3) := Lib.hid (by rw [HX.out]; exact ⟨hn, rfl, HOUT.out _ HC3.out⟩)
      clear HC3 hrow3 t3 g3 hn hx
      go_wp2
      go_ret
      exact HP.out
    | ok y r =>
      have HBD1 := Lib.hid (HBD.out.kept HCH.out (fun k hk hn => hn hk))
      have hyr := Ip.rdP_sym HSL.out hx
      have hrq : q < r ∧ r ≤ 8 * bs.length := by
        unfold Ip.rdP at hx
        split at hx
        · rename_i h0
          have hle := Ip.rd_le _ _ h0
          rw [List.length_drop, lob_length] at hle
          cases hx
          omega
        · cases hx
      have HS2 : Hid (Ip.symsP most RL RD s (lob bs) p = Ip.bind (Ip.symK most RD s2 y) (Ip.next (Ip.loop (Ip.symStep most RL RD) f)) (lob bs) r) := Lib.hid (by
        rw [HSP.out]; exact Ip.bind2_ok hx)
      go_wp2_with fail
      have HRD1 := Lib.hid (irReadC (HIR.out.mono (dn_is wr 1)) HBL1.out HGL.out)
      rw [hx] at HRD1
      have g0 : wr.drew.cell? ⟨gr, 0, none⟩ = some (.pointer (some ⟨gb, 0, none⟩)) := (HIR.out.mono (dn_is wr 1)).cell
      have t0 : wr.drew.cell? ⟨w.heap.size, 0, none⟩ = some (.pointer (some ⟨gL, 0, none⟩)) := by rw [cell_of_row _ _ _ _ _ (0, 0) (show wr.drew.heap[w.heap.size]? = _ from HROW.out)]; rfl
      refine wp_region_noPanic ?_
      refine region_J 11 (fun w' => w'.cell? ⟨w.heap.size, 0, none⟩ = some (.pointer (some ⟨gL, 0, none⟩)) ∧ w'.cell? ⟨gr, 0, none⟩ = some (.pointer (some ⟨gb, 0, none⟩))) (by kernel_rfl) ?_
      refine J_take (i := 0) (v := ?_) rfl (by kernel_rfl) (by kernel_rfl) (by kernel_rfl) (by kernel_rfl) (fun _ _ _ h => h) ⟨t0, g0⟩ (by rfl) ?_ ?_
      rotate_left
      · (intro w' hw'; obtain ⟨j0, j1⟩ := hw'; first | (go_simp; done) | (go_simp; with_reducible rfl))
      try simp only [Act.put, List.setIfInBounds_toArray, List.set_cons_zero, List.set_cons_succ]
      refine J_take (i := 1) (v := ?_) rfl (by kernel_rfl) (by kernel_rfl) (by kernel_rfl) (by kernel_rfl) (fun _ _ _ h => h) ⟨t0, g0⟩ (by rfl) ?_ ?_
      rotate_left
      · (intro w' hw'; obtain ⟨j0, j1⟩ := hw'; first | (go_simp; done) | (go_simp; with_reducible rfl))
      try simp only [Act.put, List.setIfInBounds_toArray, List.set_cons_zero, List.set_cons_succ]
      refine J_take (i := 2) (v := ?_) rfl (by kernel_rfl) (by kernel_rfl) (by kernel_rfl) (by kernel_rfl) (fun _ _ _ h => h) ⟨t0, g0⟩ (by rfl) ?_ ?_
      rotate_left
      · (intro w' hw'; obtain ⟨j0, j1⟩ := hw'; first | (go_simp; done) | (go_simp; with_reducible rfl))
      try simp only [Act.put, List.setIfInBounds_toArray, List.set_cons_zero, List.set_cons_succ]
      refine J_take (i := 3) (v := ?_) rfl (by kernel_rfl) (by kernel_rfl) (by kernel_rfl) (by kernel_rfl) (fun _ _ _ h => h) ⟨t0, g0⟩ (by rfl) ?_ ?_
      rotate_left
      · (intro w' hw'; obtain ⟨j0, j1⟩ := hw'; first | (go_simp; done) | (go_simp; with_reducible rfl))
      try simp only [Act.put, List.setIfInBounds_toArray, List.set_cons_zero, List.set_cons_succ]
      refine J_take (i := 4) (v := ?_) rfl (by kernel_rfl) (by kernel_rfl) (by kernel_rfl) (by kernel_rfl) (fun _ _ _ h => h) ⟨t0, g0⟩ (by rfl) ?_ ?_
      rotate_left
      · (intro w' hw'; obtain ⟨j0, j1⟩ := hw'; first | (go_simp; done) | (go_simp; with_reducible rfl))
      try simp only [Act.put, List.setIfInBounds_toArray, List.set_cons_zero, List.set_cons_succ]
      refine J_take (i := 5) (v := ?_) rfl (by kernel_rfl) (by kernel_rfl) (by kernel_rfl) (by kernel_rfl) (fun _ _ _ h => h) ⟨t0, g0⟩ (by rfl) ?_ ?_
      rotate_left
      · (intro w' hw'; obtain ⟨j0, j1⟩ := hw'; first | (go_simp; done) | (go_simp; with_reducible rfl))
      try simp only [Act.put, List.setIfInBounds_toArray, List.set_cons_zero, List.set_cons_succ]
      refine J_step (i := 6) (by kernel_rfl) rfl (fun K hK => ?_)
      go_simp
      go_at_call 95
      refine HRD1.out.mono ?_
      rintro e w3 ⟨⟨rfl, hir3, hch3⟩, g3⟩
      have HC3 : Hid (Ch w1 w3 (fun k => ¬ D1 k)) := Lib.hid ((HCH.out.trans (ch_below (T := fun _ => False) (dn_is wr 1)) (fun _ h => h.elim)).trans hch3 (fun n hn => .inl hn))
      have hrow3 : w3.heap[w.heap.size]? = some (.cells #[.pointer (some ⟨gL, 0, none⟩), .pointer (some ⟨gD, 0, none⟩)] 118 (0, 0)) := (hch3.block w.heap.size (by have := (Array.getElem?_eq_some_iff.1 HROW.out).1; exact this) (fun hk => hk hD1)).trans HROW.out
      have t3 : w3.cell? ⟨w.heap.size, 0, none⟩ = some (.pointer (some ⟨gL, 0, none⟩)) := by rw [cell_of_row _ _ _ _ _ (0, 0) hrow3]; rfl
      go_simp
      refine hK.out _ _ (fun _ => ⟨t3, g3⟩) (fun _ => ?_)
      clear hK K
      try simp only [Act.put, List.setIfInBounds_toArray, List.set_cons_zero, List.set_cons_succ]
      refine J_take (i := 7) (v := ?_) rfl (by kernel_rfl) (by kernel_rfl) (by kernel_rfl) (by kernel_rfl) (fun _ _ _ h => h) ⟨t3, g3⟩ (by rfl) ?_ ?_
      rotate_left
      · (intro w' hw'; obtain ⟨j0, j1⟩ := hw'; first | (go_simp; done) | (go_simp; with_reducible rfl))
      try simp only [Act.put, List.setIfInBounds_toArray, List.set_cons_zero, List.set_cons_succ]
      refine J_take (i := 8) (v := ?_) rfl (by kernel_rfl) (by kernel_rfl) (by kernel_rfl) (by kernel_rfl) (fun _ _ _ h => h) ⟨t3, g3⟩ (by rfl) ?_ ?_
      rotate_left
      · (intro w' hw'; obtain ⟨j0, j1⟩ := hw'; first | (go_simp; done) | (go_simp; with_reducible rfl))
      try simp only [Act.put, List.setIfInBounds_toArray, List.set_cons_zero, List.set_cons_succ]
      refine J_take (i := 9) (v := ?_) rfl (by kernel_rfl) (by kernel_rfl) (by kernel_rfl) (by kernel_rfl) (fun _ _ _ h => h) ⟨t3, g3⟩ (by rfl) ?_ ?_
      rotate_left
      · (intro w' hw'; obtain ⟨j0, j1⟩ := hw'; first | (go_simp; done) | (go_simp; with_reducible rfl))
      try simp only [Act.put, List.setIfInBounds_toArray, List.set_cons_zero, List.set_cons_succ]
      refine J_take (i := 10) (v := ?_) rfl (by kernel_rfl) (by kernel_rfl) (by kernel_rfl) (by kernel_rfl) (fun _ _ _ h => h) ⟨t3, g3⟩ (by rfl) ?_ ?_
      rotate_left
      · (intro w' hw'; obtain ⟨j0, j1⟩ := hw'; first | (go_simp; done) | (go_simp; with_reducible rfl))
      try simp only [Act.put, List.setIfInBounds_toArray, List.set_cons_zero, List.set_cons_succ]
      refine J_step (i := 11) (by kernel_rfl) rfl (fun K hK => ?_)
      go_simp
      refine hK.out _ _ (fun h => absurd rfl h) (fun _ => ?_)
      clear hK K
      try simp only [Act.put, List.setIfInBounds_toArray, List.set_cons_zero, List.set_cons_succ]
      refine J_done (by kernel_rfl) ?_ _
      refine NoPanic.normal ?_
      have HIR3 := Lib.hid hir3
      have HROW3 := Lib.hid hrow3
      clear hir3 hrow3 t3 g3 HIR HCH HROW HBL1 HSP hx
      by_cases hy : y = 256
      · subst hy
        have HP : Hid (IrPost w D B gr gb p5 p6 bs most ls (Ip.symsP most RL RD s (lob bs) p) (.returned .nilIface) w3) := Lib.hid (by
          rw [HS2.out, Ip.bind_ok (show Ip.symK most RD s2 256 (lob bs) r = .ok (.inr s2) r by unfold Ip.symK; rw [if_pos rfl]; rfl)]
          exact ⟨rfl, HIR3.out.less hDl, HOUT.out _ HC3.out⟩)
        clear HC3 HIR3
        go_wp2
        go_ret
        exact HP.out
      · have hy' : (y == 256) = false := by simpa using hy
        by_cases hgt : 256 < y
        · have d1 : decide (256 < y) = true := by simpa using hgt
          have hb4 := below_alloc w3 (.cells #[.int .i64 0, .int .i64 y] 47)
          have HROW4 := Lib.hid (heap_alloc_last w3 (.cells #[.int .i64 0, .int .i64 y] 47))
          have HIR4 := Lib.hid (HIR3.out.new hb4)
          have hz4 : (w3.alloc (.cells #[.int .i64 0, .int .i64 y] 47)).heap.size = w3.heap.size + 1 := by simp
          have HC4 : Hid (Ch w1 (w3.alloc (.cells #[.int .i64 0, .int .i64 y] 47)) (fun k => ¬ D1 k)) := Lib.hid (HC3.out.trans (ch_below (T := fun _ => False) hb4) (fun _ h => h.elim))
          have HROWB : Hid ((w3.alloc (.cells #[.int .i64 0, .int .i64 y] 47)).heap[w.heap.size]? = some (.cells #[.pointer (some ⟨gL, 0, none⟩), .pointer (some ⟨gD, 0, none⟩)] 118 (0, 0))) := Lib.hid ((hb4.block w.heap.size ((Array.getElem?_eq_some_iff.1 HROW3.out).1)).trans HROW3.out)
          have e1 : (w3.alloc (.cells #[.int .i64 0, .int .i64 y] 47)).cell? ⟨w.heap.size, 1, none⟩ = some (.pointer (some ⟨gD, 0, none⟩)) := by rw [cell_of_row _ _ _ _ _ (0, 0) HROWB.out]; rfl
          clear hb4 HC3 HIR3
          go_wp2_with fail
          clear e1
          revert HROW4 HIR4 hz4 HC4 HROWB
          generalize World.alloc _ _ = w4
          intro HROW4 HIR4 hz4 HC4 HROWB
          obtain ⟨D2, hDD⟩ : ∃ D2 : Nat → Prop, D2 = fun k => D1 k ∨ (w3.heap.size ≤ k ∧ k < w4.heap.size) := ⟨_, rfl⟩
          have hD2 : D2 w3.heap.size := by rw [hDD]; exact .inr ⟨Nat.le_refl _, by omega⟩
          have hD12 : ∀ k, D1 k → D2 k := fun k hk => by rw [hDD]; exact .inl hk
          rw [← hDD] at HIR4
          clear hDD
          have hb3 : w.heap.size < w3.heap.size := (Array.getElem?_eq_some_iff.1 HROW3.out).1
          have HMA := Lib.hid (match_any HIR4.out ((HBD.out.kept HC4.out (fun k hk hn => hn hk)).wide hD12) HGD.out HSD.out y (wf_int hyr))
          refine HMA.out.mono ?_
          cases hm : Ip.matchP RD y (lob bs) r with
          | err n =>
            rintro e w5 ⟨hv, h2⟩
            obtain rfl := h2 n hm
            rw [hm] at hv
            obtain ⟨hn, _, hch5⟩ := hv
            have hrow5 := (hch5.block w3.heap.size (by omega) (fun hk => hk hD2)).trans HROW4.out
            have k0 : w5.cell? ⟨w3.heap.size, 0, none⟩ = some (.int .i64 0) := by rw [cell_of_row _ _ _ _ _ (0, 0) hrow5]; rfl
            have k1 : w5.cell? ⟨w3.heap.size, 1, none⟩ = some (.int .i64 y) := by rw [cell_of_row _ _ _ _ _ (0, 0) hrow5]; rfl
            have kf0 : w5.frozen? ⟨w3.heap.size, 0, none⟩ = false := frozen_of_row _ _ _ _ _ hrow5
            have kf1 : w5.frozen? ⟨w3.heap.size, 1, none⟩ = false := frozen_of_row _ _ _ _ _ hrow5
            have HP : Hid (IrPost w D B gr gb p5 p6 bs most ls (Ip.symsP most RL RD s (lob bs) p) (.returned (.iface 39 (.int .i64 n))) ((w5.setCell ⟨w3.heap.size, 0, none⟩ (.int .i64 0)).setCell ⟨w3.heap.size, 1, none⟩ (.int .i64 0))) := Lib.hid (by
              rw [HS2.out, Ip.bind_err (show Ip.symK most RD s2 y (lob bs) r = .err n by unfold Ip.symK; rw [if_neg hy, if_pos hgt]; exact Ip.bind_err hm)]
              exact ⟨hn, rfl, HOUT.out _ (ch_two (HC4.out.trans hch5 (fun n hn => .inl (fun hd => hn (hD12 n hd)))) (by omega) _ _)⟩)
            clear h2 hch5 hrow5 hn hm HMA
            go_wp2
            go_ret
            exact HP.out
          | ok t r5 =>
            rintro e w5 ⟨hv, _⟩
            rw [hm] at hv
            obtain ⟨rfl, hir5, hch5⟩ := hv
            have hrow5 := (hch5.block w3.heap.size (by omega) (fun hk => hk hD2)).trans HROW4.out
            have k0 : w5.cell? ⟨w3.heap.size, 0, none⟩ = some (.int .i64 0) := by rw [cell_of_row _ _ _ _ _ (0, 0) hrow5]; rfl
            have k1 : w5.cell? ⟨w3.heap.size, 1, none⟩ = some (.int .i64 y) := by rw [cell_of_row _ _ _ _ _ (0, 0) hrow5]; rfl
            have kf0 : w5.frozen? ⟨w3.heap.size, 0, none⟩ = false := frozen_of_row _ _ _ _ _ hrow5
            have kf1 : w5.frozen? ⟨w3.heap.size, 1, none⟩ = false := frozen_of_row _ _ _ _ _ hrow5
            have HTOK := Lib.hid (Ip.matchP_tok hm)
            have hqr : r ≤ r5 ∧ r5 ≤ 8 * bs.length := ⟨Ip.matchP_le hm, hir5.place.1⟩
            have HERR : Hid (∀ n, Ip.addP most t s2 (lob bs) r5 = .err n → Ip.symsP most RL RD s (lob bs) p = .err n) := Lib.hid (fun n ha => by
              rw [HS2.out]
              have e : Ip.symK most RD s2 y (lob bs) r = .err n := by unfold Ip.symK; rw [if_neg hy, if_pos hgt, Ip.bind_ok hm]; exact Ip.bind_err ha
              exact Ip.bind_err e)
            have HOK : Hid (∀ s', Ip.addP most t s2 (lob bs) r5 = .ok s' r5 → Ip.symsP most RL RD s (lob bs) p = Ip.loop (Ip.symStep most RL RD) f s' (lob bs) r5) := Lib.hid (fun s' ha => by
              rw [HS2.out]
              have e : Ip.symK most RD s2 y (lob bs) r = .ok (.inl s') r5 := by unfold Ip.symK; rw [if_neg hy, if_pos hgt, Ip.bind_ok hm]; exact Ip.bind_ok ha
              exact Ip.bind_ok e)
            obtain ⟨a, b⟩ := t
            have HIR6 := Lib.hid (hir5.touch (ch_two1 w5 w3.heap.size (.int .i64 a) (.int .i64 b)) hD2)
            have HROW6 := Lib.hid (row_two hrow5 (.int .i64 a) (.int .i64 b))
            have HC6 : Hid (Ch w1 ((w5.setCell ⟨w3.heap.size, 0, none⟩ (.int .i64 a)).setCell ⟨w3.heap.size, 1, none⟩ (.int .i64 b)) (fun k => ¬ D1 k)) := Lib.hid (ch_two (HC4.out.trans hch5 (fun n hn => .inl (fun hd => hn (hD12 n hd)))) (by omega) _ _)
            clear hm HMA hir5 hch5 hrow5 HC4 HIR4 HROW4 HROWB HS2
            go_wp2_with fail
            revert HIR6 HROW6 HC6
            generalize World.setCell _ _ _ = w4
            intro HIR4 HROW4 HC4
            clear k0 k1 kf0 kf1
            cases ha : Ip.addP most (((a : Int), (b : Int)) : Tok) s2 (lob bs) r5 with
            | err n =>
              have HX : Hid (Ip.symsP most RL RD s (lob bs) p = .err n) := Lib.hid (HERR.out n ha)
              have HAD1 := Lib.hid (irAdd (HIR4.out.mono (dn_is w4 1)) (((a : Int), (b : Int)) : Tok) HTOK.out)
              rw [ha] at HAD1
              have t0 : w4.drew.cell? ⟨w3.heap.size, 0, none⟩ = some (.int .i64 a) := by rw [cell_of_row _ _ _ _ _ (0, 0) (show w4.drew.heap[w3.heap.size]? = _ from HROW4.out)]; rfl
              have t1 : w4.drew.cell? ⟨w3.heap.size, 1, none⟩ = some (.int .i64 b) := by rw [cell_of_row _ _ _ _ _ (0, 0) (show w4.drew.heap[w3.heap.size]? = _ from HROW4.out)]; rfl
              refine wp_region_noPanic ?_
              refine region_J 5 (fun w' => w'.cell? ⟨w3.heap.size, 0, none⟩ = some (.int .i64 a) ∧ w'.cell? ⟨w3.heap.size, 1, none⟩ = some (.int .i64 b)) (by kernel_rfl) ?_
              refine J_take (i := 0) (v := ?_) rfl (by kernel_rfl) (by kernel_rfl) (by kernel_rfl) (by kernel_rfl) (fun _ _ _ h => h) ⟨t0, t1⟩ (by rfl) ?_ ?_
              rotate_left
              · (intro w' hw'; obtain ⟨j0, j1⟩ := hw'; first | (go_simp; done) | (go_simp; with_reducible rfl))
              try simp only [Act.put, List.setIfInBounds_toArray, List.set_cons_zero, List.set_cons_succ]
              refine J_take (i := 1) (v := ?_) rfl (by kernel_rfl) (by kernel_rfl) (by kernel_rfl) (by kernel_rfl) (fun _ _ _ h => h) ⟨t0, t1⟩ (by rfl) ?_ ?_
              rotate_left
              · (intro w' hw'; obtain ⟨j0, j1⟩ := hw'; first | (go_simp; done) | (go_simp; with_reducible rfl))
              try simp only [Act.put, List.setIfInBounds_toArray, List.set_cons_zero, List.set_cons_succ]
              refine J_take (i := 2) (v := ?_) rfl (by kernel_rfl) (by kernel_rfl) (by kernel_rfl) (by kernel_rfl) (fun _ _ _ h => h) ⟨t0, t1⟩ (by rfl) ?_ ?_
              rotate_left
              · (intro w' hw'; obtain ⟨j0, j1⟩ := hw'; first | (go_simp; done) | (go_simp; with_reducible rfl))
              try simp only [Act.put, List.setIfInBounds_toArray, List.set_cons_zero, List.set_cons_succ]
              refine J_take (i := 3) (v := ?_) rfl (by kernel_rfl) (by kernel_rfl) (by kernel_rfl) (by kernel_rfl) (fun _ _ _ h => h) ⟨t0, t1⟩ (by rfl) ?_ ?_
              rotate_left
              · (intro w' hw'; obtain ⟨j0, j1⟩ := hw'; first | (go_simp; done) | (go_simp; with_reducible rfl))
              try simp only [Act.put, List.setIfInBounds_toArray, List.set_cons_zero, List.set_cons_succ]
              refine J_step (i := 4) (by kernel_rfl) rfl (fun K hK => ?_)
              go_simp
              go_at_call 92
              refine HAD1.out.mono ?_
              rintro e w5 ⟨hn, rfl, hch5⟩
              have hrow5 : w5.heap[w3.heap.size]? = some (.cells #[.int .i64 a, .int .i64 b] 47 (0, 0)) := (hch5.block w3.heap.size (by have := (Array.getElem?_eq_some_iff.1 HROW4.out).1; exact this) (fun hk => hk hD2)).trans HROW4.out
              have u0 : w5.cell? ⟨w3.heap.size, 0, none⟩ = some (.int .i64 a) := by rw [cell_of_row _ _ _ _ _ (0, 0) hrow5]; rfl
              have u1 : w5.cell? ⟨w3.heap.size, 1, none⟩ = some (.int .i64 b) := by rw [cell_of_row _ _ _ _ _ (0, 0) hrow5]; rfl
              have HC5 : Hid (Ch w1 w5 (fun k => ¬ D1 k)) := Lib.hid ((HC4.out.trans (ch_below (T := fun _ => False) (dn_is w4 1)) (fun _ h => h.elim)).trans hch5 (fun n hn => .inl (fun hd => hn (hD12 n hd))))
              go_simp
              refine hK.out _ _ (fun _ => ⟨u0, u1⟩) (fun _ => ?_)
              clear hK K
              try simp only [Act.put, List.setIfInBounds_toArray, List.set_cons_zero, List.set_cons_succ]
              refine J_step (i := 5) (by kernel_rfl) rfl (fun K hK => ?_)
              go_simp
              refine hK.out _ _ (fun h => absurd rfl h) (fun _ => ?_)
              clear hK K
              try simp only [Act.put, List.setIfInBounds_toArray, List.set_cons_zero, List.set_cons_succ]
              refine J_done (by kernel_rfl) ?_ _
              refine NoPanic.normal ?_
              have HP : Hid (IrPost w D B gr gb p5 p6 bs most ls (Ip.symsP most RL RD s (lob bs) p) (.returned (.iface 39 (.int .i64 n))) w5) := Lib.hid (by rw [HX.out]; exact ⟨hn, rfl, HOUT.out _ HC5.out⟩)
              clear HC5 hrow5 u0 u1 t0 t1 hn ha
              go_wp2
              go_ret
              exact HP.out
            | ok s' r6 =>
              have hr5 : r6 = r5 := by
                unfold Ip.addP at ha
                split at ha
                · cases ha; rfl
                · cases ha
              subst hr5
              have HX := Lib.hid (HOK.out s' ha)
              have HAD1 := Lib.hid (irAdd (HIR4.out.mono (dn_is w4 1)) (((a : Int), (b : Int)) : Tok) HTOK.out)
              rw [ha] at HAD1
              have t0 : w4.drew.cell? ⟨w3.heap.size, 0, none⟩ = some (.int .i64 a) := by rw [cell_of_row _ _ _ _ _ (0, 0) (show w4.drew.heap[w3.heap.size]? = _ from HROW4.out)]; rfl
              have t1 : w4.drew.cell? ⟨w3.heap.size, 1, none⟩ = some (.int .i64 b) := by rw [cell_of_row _ _ _ _ _ (0, 0) (show w4.drew.heap[w3.heap.size]? = _ from HROW4.out)]; rfl
              refine wp_region_noPanic ?_
              refine region_J 5 (fun w' => w'.cell? ⟨w3.heap.size, 0, none⟩ = some (.int .i64 a) ∧ w'.cell? ⟨w3.heap.size, 1, none⟩ = some (.int .i64 b)) (by kernel_rfl) ?_
              refine J_take (i := 0) (v := ?_) rfl (by kernel_rfl) (by kernel_rfl) (by kernel_rfl) (by kernel_rfl) (fun _ _ _ h => h) ⟨t0, t1⟩ (by rfl) ?_ ?_
              rotate_left
              · (intro w' hw'; obtain ⟨j0, j1⟩ := hw'; first | (go_simp; done) | (go_simp; with_reducible rfl))
              try simp only [Act.put, List.setIfInBounds_toArray, List.set_cons_zero, List.set_cons_succ]
              refine J_take (i := 1) (v := ?_) rfl (by kernel_rfl) (by kernel_rfl) (by kernel_rfl) (by kernel_rfl) (fun _ _ _ h => h) ⟨t0, t1⟩ (by rfl) ?_ ?_
              rotate_left
              · (intro w' hw'; obtain ⟨j0, j1⟩ := hw'; first | (go_simp; done) | (go_simp; with_reducible rfl))
              try simp only [Act.put, List.setIfInBounds_toArray, List.set_cons_zero, List.set_cons_succ]
              refine J_take (i := 2) (v := ?_) rfl (by kernel_rfl) (by kernel_rfl) (by kernel_rfl) (by kernel_rfl) (fun _ _ _ h => h) ⟨t0, t1⟩ (by rfl) ?_ ?_
              rotate_left
              · (intro w' hw'; obtain ⟨j0, j1⟩ := hw'; first | (go_simp; done) | (go_simp; with_reducible rfl))
              try simp only [Act.put, List.setIfInBounds_toArray, List.set_cons_zero, List.set_cons_succ]
              refine J_take (i := 3) (v := ?_) rfl (by kernel_rfl) (by kernel_rfl) (by kernel_rfl) (by kernel_rfl) (fun _ _ _ h => h) ⟨t0, t1⟩ (by rfl) ?_ ?_
              rotate_left
              · (intro w' hw'; obtain ⟨j0, j1⟩ := hw'; first | (go_simp; done) | (go_simp; with_reducible rfl))
              try simp only [Act.put, List.setIfInBounds_toArray, List.set_cons_zero, List.set_cons_succ]
              refine J_step (i := 4) (by kernel_rfl) rfl (fun K hK => ?_)
              go_simp
              go_at_call 92
              refine HAD1.out.mono ?_
              rintro e w5 ⟨rfl, hir5, hch5⟩
              have hrow5 : w5.heap[w3.heap.size]? = some (.cells #[.int .i64 a, .int .i64 b] 47 (0, 0)) := (hch5.block w3.heap.size (by have := (Array.getElem?_eq_some_iff.1 HROW4.out).1; exact this) (fun hk => hk hD2)).trans HROW4.out
              have u0 : w5.cell? ⟨w3.heap.size, 0, none⟩ = some (.int .i64 a) := by rw [cell_of_row _ _ _ _ _ (0, 0) hrow5]; rfl
              have u1 : w5.cell? ⟨w3.heap.size, 1, none⟩ = some (.int .i64 b) := by rw [cell_of_row _ _ _ _ _ (0, 0) hrow5]; rfl
              have HC5 : Hid (Ch w1 w5 (fun k => ¬ D1 k)) := Lib.hid ((HC4.out.trans (ch_below (T := fun _ => False) (dn_is w4 1)) (fun _ h => h.elim)).trans hch5 (fun n hn => .inl (fun hd => hn (hD12 n hd))))
              go_simp
              refine hK.out _ _ (fun _ => ⟨u0, u1⟩) (fun _ => ?_)
              clear hK K
              try simp only [Act.put, List.setIfInBounds_toArray, List.set_cons_zero, List.set_cons_succ]
              refine J_step (i := 5) (by kernel_rfl) rfl (fun K hK => ?_)
              go_simp
              refine hK.out _ _ (fun h => absurd rfl h) (fun _ => ?_)
              clear hK K
              try simp only [Act.put, List.setIfInBounds_toArray, List.set_cons_zero, List.set_cons_succ]
              refine J_done (by kernel_rfl) ?_ _
              refine NoPanic.normal ?_
              have HK5 : Hid (Ir w5 D1 B gr gb p5 p6 bs r6 most ls s' ∧ Ch w1 w5 (fun k => ¬ D1 k) ∧ ∃ f, 8 * bs.length - r6 < f ∧ Ip.symsP most RL RD s (lob bs) p = Ip.loop (Ip.symStep most RL RD) f s' (lob bs) r6) := Lib.hid ⟨hir5.less hD12, HC5.out, f, by omega, HX.out⟩
              clear hir5 HC5 hrow5 u0 u1 t0 t1 ha
              go_wp2
              go_roundg (8 * bs.length - r6)
              case measure => omega
              case rel => exact ⟨r6, s', rfl, HK5⟩
        · have d1 : decide (256 < y) = false := by simpa using hgt
          have HTOK : Hid (Tk.isTok ((((0 : Int), y)) : Tok) = true) := Lib.hid (by
            unfold Tk.isTok; rw [if_pos rfl]; exact decide_eq_true ⟨hyr.1, by dsimp only; omega⟩)
          have hb4 := below_alloc w3 (.cells #[.int .i64 0, .int .i64 y] 47)
          have HROW4 := Lib.hid (heap_alloc_last w3 (.cells #[.int .i64 0, .int .i64 y] 47))
          have HIR4 := Lib.hid (HIR3.out.new hb4)
          have hz4 : (w3.alloc (.cells #[.int .i64 0, .int .i64 y] 47)).heap.size = w3.heap.size + 1 := by simp
          have HC4 : Hid (Ch w1 (w3.alloc (.cells #[.int .i64 0, .int .i64 y] 47)) (fun k => ¬ D1 k)) := Lib.hid (HC3.out.trans (ch_below (T := fun _ => False) hb4) (fun _ h => h.elim))
          have HERR : Hid (∀ n, Ip.addP most (((0 : Int), y) : Tok) s2 (lob bs) r = .err n → Ip.symsP most RL RD s (lob bs) p = .err n) := Lib.hid (fun n ha => by
            rw [HS2.out]
            have e : Ip.symK most RD s2 y (lob bs) r = .err n := by unfold Ip.symK; rw [if_neg hy, if_neg hgt]; exact Ip.bind_err ha
            exact Ip.bind_err e)
          have HOK : Hid (∀ s', Ip.addP most (((0 : Int), y) : Tok) s2 (lob bs) r = .ok s' r → Ip.symsP most RL RD s (lob bs) p = Ip.loop (Ip.symStep most RL RD) f s' (lob bs) r) := Lib.hid (fun s' ha => by
            rw [HS2.out]
            have e : Ip.symK most RD s2 y (lob bs) r = .ok (.inl s') r := by unfold Ip.symK; rw [if_neg hy, if_neg hgt]; exact Ip.bind_ok ha
            exact Ip.bind_ok e)
          clear hb4 HC3 HIR3 HS2 hy
          go_wp2_with fail
          revert hz4 HROW4 HIR4 HC4
          generalize World.alloc _ _ = w4
          intro HROW4 HIR4 hz4 HC4
          obtain ⟨D2, hDD⟩ : ∃ D2 : Nat → Prop, D2 = fun k => D1 k ∨ (w3.heap.size ≤ k ∧ k < w4.heap.size) := ⟨_, rfl⟩
          have hD2 : D2 w3.heap.size := by rw [hDD]; exact .inr ⟨Nat.le_refl _, by omega⟩
          have hD12 : ∀ k, D1 k → D2 k := fun k hk => by rw [hDD]; exact .inl hk
          rw [← hDD] at HIR4
          clear hDD
          cases ha : Ip.addP most (((0 : Int), (y : Int)) : Tok) s2 (lob bs) r with
          | err n =>
            have HX : Hid (Ip.symsP most RL RD s (lob bs) p = .err n) := Lib.hid (HERR.out n ha)
            have HAD1 := Lib.hid (irAdd (HIR4.out.mono (dn_is w4 1)) (((0 : Int), (y : Int)) : Tok) HTOK.out)
            rw [ha] at HAD1
            have t0 : w4.drew.cell? ⟨w3.heap.size, 0, none⟩ = some (.int .i64 0) := by rw [cell_of_row _ _ _ _ _ (0, 0) (show w4.drew.heap[w3.heap.size]? = _ from HROW4.out)]; rfl
            have t1 : w4.drew.cell? ⟨w3.heap.size, 1, none⟩ = some (.int .i64 y) := by rw [cell_of_row _ _ _ _ _ (0, 0) (show w4.drew.heap[w3.heap.size]? = _ from HROW4.out)]; rfl
            refine wp_region_noPanic ?_
            refine region_J 5 (fun w' => w'.cell? ⟨w3.heap.size, 0, none⟩ = some (.int .i64 0) ∧ w'.cell? ⟨w3.heap.size, 1, none⟩ = some (.int .i64 y)) (by kernel_rfl) ?_
            refine J_take (i := 0) (v := ?_) rfl (by kernel_rfl) (by kernel_rfl) (by kernel_rfl) (by kernel_rfl) (fun _ _ _ h => h) ⟨t0, t1⟩ (by rfl) ?_ ?_
            rotate_left
            · (intro w' hw'; obtain ⟨j0, j1⟩ := hw'; first | (go_simp; done) | (go_simp; with_reducible rfl))
            try simp only [Act.put, List.setIfInBounds_toArray, List.set_cons_zero, List.set_cons_succ]
            refine J_take (i := 1) (v := ?_) rfl (by kernel_rfl) (by kernel_rfl) (by kernel_rfl) (by kernel_rfl) (fun _ _ _ h => h) ⟨t0, t1⟩ (by rfl) ?_ ?_
            rotate_left
            · (intro w' hw'; obtain ⟨j0, j1⟩ := hw'; first | (go_simp; done) | (go_simp; with_reducible rfl))
            try simp only [Act.put, List.setIfInBounds_toArray, List.set_cons_zero, List.set_cons_succ]
            refine J_take (i := 2) (v := ?_) rfl (by kernel_rfl) (by kernel_rfl) (by kernel_rfl) (by kernel_rfl) (fun _ _ _ h => h) ⟨t0, t1⟩ (by rfl) ?_ ?_
            rotate_left
            · (intro w' hw'; obtain ⟨j0, j1⟩ := hw'; first | (go_simp; done) | (go_simp; with_reducible rfl))
            try simp only [Act.put, List.setIfInBounds_toArray, List.set_cons_zero, List.set_cons_succ]
            refine J_take (i := 3) (v := ?_) rfl (by kernel_rfl) (by kernel_rfl) (by kernel_rfl) (by kernel_rfl) (fun _ _ _ h => h) ⟨t0, t1⟩ (by rfl) ?_ ?_
            rotate_left
            · (intro w' hw'; obtain ⟨j0, j1⟩ := hw'; first | (go_simp; done) | (go_simp; with_reducible rfl))
            try simp only [Act.put, List.setIfInBounds_toArray, List.set_cons_zero, List.set_cons_succ]
            refine J_step (i := 4) (by kernel_rfl) rfl (fun K hK => ?_)
            go_simp
            go_at_call 92
            refine HAD1.out.mono ?_
            rintro e w5 ⟨hn, rfl, hch5⟩
            have hrow5 : w5.heap[w3.heap.size]? = some (.cells #[.int .i64 0, .int .i64 y] 47 (0, 0)) := (hch5.block w3.heap.size (by have := (Array.getElem?_eq_some_iff.1 HROW4.out).1; exact this) (fun hk => hk hD2)).trans HROW4.out
            have u0 : w5.cell? ⟨w3.heap.size, 0, none⟩ = some (.int .i64 0) := by rw [cell_of_row _ _ _ _ _ (0, 0) hrow5]; rfl
            have u1 : w5.cell? ⟨w3.heap.size, 1, none⟩ = some (.int .i64 y) := by rw [cell_of_row _ _ _ _ _ (0, 0) hrow5]; rfl
            have HC5 : Hid (Ch w1 w5 (fun k => ¬ D1 k)) := Lib.hid ((HC4.out.trans (ch_below (T := fun _ => False) (dn_is w4 1)) (fun _ h => h.elim)).trans hch5 (fun n hn => .inl (fun hd => hn (hD12 n hd))))
            go_simp
            refine hK.out _ _ (fun _ => ⟨u0, u1⟩) (fun _ => ?_)
            clear hK K
            try simp only [Act.put, List.setIfInBounds_toArray, List.set_cons_zero, List.set_cons_succ]
            refine J_step (i := 5) (by kernel_rfl) rfl (fun K hK => ?_)
            go_simp
            refine hK.out _ _ (fun h => absurd rfl h) (fun _ => ?_)
            clear hK K
            try simp only [Act.put, List.setIfInBounds_toArray, List.set_cons_zero, List.set_cons_succ]
            refine J_done (by kernel_rfl) ?_ _
            refine NoPanic.normal ?_
            have HP : Hid (IrPost w D B gr gb p5 p6 bs most ls (Ip.symsP most RL RD s (lob bs) p) (.returned (.iface 39 (.int .i64 n))) w5) := Lib.hid (by rw [HX.out]; exact ⟨hn, rfl, HOUT.out _ HC5.out⟩)
            clear HC5 hrow5 u0 u1 t0 t1 hn ha
            go_wp2
            go_ret
            exact HP.out
          | ok s' r5 =>
            have hr5 : r5 = r := by
              unfold Ip.addP at ha
              split at ha
              · cases ha; rfl
              · cases ha
            subst hr5
            have HX := Lib.hid (HOK.out s' ha)
            have HAD1 := Lib.hid (irAdd (HIR4.out.mono (dn_is w4 1)) (((0 : Int), (y : Int)) : Tok) HTOK.out)
            rw [ha] at HAD1
            have t0 : w4.drew.cell? ⟨w3.heap.size, 0, none⟩ = some (.int .i64 0) := by rw [cell_of_row _ _ _ _ _ (0, 0) (show w4.drew.heap[w3.heap.size]? = _ from HROW4.out)]; rfl
            have t1 : w4.drew.cell? ⟨w3.heap.size, 1, none⟩ = some (.int .i64 y) := by rw [cell_of_row _ _ _ _ _ (0, 0) (show w4.drew.heap[w3.heap.size]? = _ from HROW4.out)]; rfl
            refine wp_region_noPanic ?_
            refine region_J 5 (fun w' => w'.cell? ⟨w3.heap.size, 0, none⟩ = some (.int .i64 0) ∧ w'.cell? ⟨w3.heap.size, 1, none⟩ = some (.int .i64 y)) (by kernel_rfl) ?_
            refine J_take (i := 0) (v := ?_) rfl (by kernel_rfl) (by kernel_rfl) (by kernel_rfl) (by kernel_rfl) (fun _ _ _ h => h) ⟨t0, t1⟩ (by rfl) ?_ ?_
            rotate_left
            · (intro w' hw'; obtain ⟨j0, j1⟩ := hw'; first | (go_simp; done) | (go_simp; with_reducible rfl))
            try simp only [Act.put, List.setIfInBounds_toArray, List.set_cons_zero, List.set_cons_succ]
            refine J_take (i := 1) (v := ?_) rfl (by kernel_rfl) (by kernel_rfl) (by kernel_rfl) (by kernel_rfl) (fun _ _ _ h => h) ⟨t0, t1⟩ (by rfl) ?_ ?_
            rotate_left
            · (intro w' hw'; obtain ⟨j0, j1⟩ := hw'; first | (go_simp; done) | (go_simp; with_reducible rfl))
            try simp only [Act.put, List.setIfInBounds_toArray, List.set_cons_zero, List.set_cons_succ]
            refine J_take (i := 2) (v := ?_) rfl (by kernel_rfl) (by kernel_rfl) (by kernel_rfl) (by kernel_rfl) (fun _ _ _ h => h) ⟨t0, t1⟩ (by rfl) ?_ ?_
            rotate_left
            · (intro w' hw'; obtain ⟨j0, j1⟩ := hw'; first | (go_simp; done) | (go_simp; with_reducible rfl))
            try simp only [Act.put, List.setIfInBounds_toArray, List.set_cons_zero, List.set_cons_succ]
            refine J_take (i := 3) (v := ?_) rfl (by kernel_rfl) (by kernel_rfl) (by kernel_rfl) (by kernel_rfl) (fun _ _ _ h => h) ⟨t0, t1⟩ (by rfl) ?_ ?_
            rotate_left
            · (intro w' hw'; obtain ⟨j0, j1⟩ := hw'; first | (go_simp; done) | (go_simp; with_reducible rfl))
            try simp only [Act.put, List.setIfInBounds_toArray, List.set_cons_zero, List.set_cons_succ]
            refine J_step (i := 4) (by kernel_rfl) rfl (fun K hK => ?_)
            go_simp
            go_at_call 92
            refine HAD1.out.mono ?_
            rintro e w5 ⟨rfl, hir5, hch5⟩
            have hrow5 : w5.heap[w3.heap.size]? = some (.cells #[.int .i64 0, .int .i64 y] 47 (0, 0)) := (hch5.block w3.heap.size (by have := (Array.getElem?_eq_some_iff.1 HROW4.out).1; exact this) (fun hk => hk hD2)).trans HROW4.out
            have u0 : w5.cell? ⟨w3.heap.size, 0, none⟩ = some (.int .i64 0) := by rw [cell_of_row _ _ _ _ _ (0, 0) hrow5]; rfl
            have u1 : w5.cell? ⟨w3.heap.size, 1, none⟩ = some (.int .i64 y) := by rw [cell_of_row _ _ _ _ _ (0, 0) hrow5]; rfl
            have HC5 : Hid (Ch w1 w5 (fun k => ¬ D1 k)) := Lib.hid ((HC4.out.trans (ch_below (T := fun _ => False) (dn_is w4 1)) (fun _ h => h.elim)).trans hch5 (fun n hn => .inl (fun hd => hn (hD12 n hd))))
            go_simp
            refine hK.out _ _ (fun _ => ⟨u0, u1⟩) (fun _ => ?_)
            clear hK K
            try simp only [Act.put, List.setIfInBounds_toArray, List.set_cons_zero, List.set_cons_succ]
            refine J_step (i := 5) (by kernel_rfl) rfl (fun K hK => ?_)
            go_simp
            refine hK.out _ _ (fun h => absurd rfl h) (fun _ => ?_)
            clear hK K
            try simp only [Act.put, List.setIfInBounds_toArray, List.set_cons_zero, List.set_cons_succ]
            refine J_done (by kernel_rfl) ?_ _
            refine NoPanic.normal ?_
            have HK5 : Hid (Ir w5 D1 B gr gb p5 p6 bs r5 most ls s' ∧ Ch w1 w5 (fun k => ¬ D1 k) ∧ ∃ f, 8 * bs.length - r5 < f ∧ Ip.symsP most RL RD s (lob bs) p = Ip.loop (Ip.symStep most RL RD) f s' (lob bs) r5) := Lib.hid ⟨hir5.less hD12, HC5.out, f, by omega, HX.out⟩
            clear hir5 HC5 hrow5 u0 u1 t0 t1 ha
            go_wp2
            go_roundg (8 * bs.length - r5)
            case measure => omega
            case rel => exact ⟨r5, s', rfl, HK5⟩
end
end Go.Proofs.YtfgpmccmalddjaaDoor
end
