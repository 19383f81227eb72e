/- (*output).add: its contract. -/
import Derived.Test.YtfgpmccmalddjaaDoorZ5
import Derived.Deep.QuietTactic
import Derived.BigQuiet
set_option linter.unusedSimpArgs false
set_option linter.unusedVariables false
section
namespace Go.Proofs.YtfgpmccmalddjaaDoor
open Go.RowKit
set_option linter.unusedSimpArgs false
set_option linter.unusedVariables false

section
variable {P : Program} {w : World} {ops : Array Oper} {o : Oper} {a : Act} {Q : Exit → Act → World → Prop} {K : Act → World → Prop} {E : Prop}
variable {t e : TypeId} {z : Value} {size by' : Nat}
/-- append, as one step of a region that draws. -/
theorem step_app (R : RowTy P t e z size by') (hg : o.guard = none) (s x : Operand) (hop : o.op = Op.call { callee := Callee.builtin Builtin.append, args := #[s, x], argTypes := #[t, t] })
    {base n : Nat} {v : Value} {xs : List Value} (hown : w.ownsRow base e size v n xs) {ad : Addr} {m c : Nat} {news : List Value} (hsrc : SrcRow w (some ad) m c news size)
    (hs : a.eval s = v) (hx : a.eval x = .slice (some ad) m c) (hm : 0 < m) (h63 : n + m ≤ 9223372036854775807) (hbytes : (n + m) * by' ≤ 140737488355328) (hbase : base ≤ w.heap.size)
    (hK : ∀ v' w', w'.ownsRow base e size v' (n + m) (xs ++ news) → Step w w' v v' → K (a.put o.dst v') w') :
    if Region.wanted o (yielded ops a.tmps) = true then Oper.wp P o a w K Q else E := by
  have hw : Region.wanted o (yielded ops a.tmps) = true := by simp [Region.wanted, hg]
  rw [if_pos hw]
  obtain ⟨v', w', hrun, r1, r2⟩ := run_app R o.type hown hsrc hm h63 hbytes hbase
  unfold Oper.wp
  simp [execOp, hop, resolve, invoke, builtin, hs, hx, hrun, Result.andThen]
  exact hK _ _ r1 r2
end
/-- What an append leaves of the elder row. -/
theorem step_keeps {w w' : World} {base gv n cap m : Nat} {e : TypeId} {xs news : List Value} {v' : Value} (h : w.ownsRow base e 1 (.slice (some ⟨gv, 0, none⟩) n cap) n xs) (h' : w'.ownsRow base e 1 v' (n + m) (xs ++ news)) (r : Step w w' (.slice (some ⟨gv, 0, none⟩) n cap) v') (q : Nat) (hq : q < n) :
    w'.cell? ⟨gv, q, none⟩ = w.cell? ⟨gv, q, none⟩ := by
  have hx : xs.length = n := by have := h.1; simpa using this
  have h0 := h.cellAt q (by omega)
  rcases r with ⟨g, k, c, k', e1, e2, _⟩ | ⟨_, hg⟩
  · simp only [Value.slice.injEq, Option.some.injEq, Addr.mk.injEq, and_true] at e1
    obtain ⟨rfl, _, rfl⟩ := e1
    rcases own_nil_or h' with ⟨e3, _⟩ | ⟨g2, c2, e3, _⟩
    · rw [e3] at e2; simp at e2
    rw [e3] at e2 h'
    simp only [Value.slice.injEq, Option.some.injEq, Addr.mk.injEq, and_true] at e2
    obtain ⟨rfl, _, rfl⟩ := e2
    have h1 := h'.cellAt q (by omega)
    rw [h0, h1, List.getElem?_append_left (by omega)]
  · have hlt := (h.lt gv rfl).2
    exact World.cell?_of_block (hg.block gv hlt (by simp))
theorem dn_is (w : World) (n : Nat) : Below w.heap.size w (w.drewN n) := ⟨rfl, rfl, rfl, Nat.le_refl _, fun _ _ => rfl⟩
theorem tyU : RowTy Tryd.prog 22 5 (.int .u8 0) 1 1 := ⟨Tryd.underlying22, by kernel_rfl, rfl, by omega⟩
theorem src_b (w : World) (x : Nat) (hx : x < 256) : SrcRow (w.alloc (.cells #[Value.int .u8 (x : Nat)] 5)) (some ⟨w.heap.size, 0, none⟩) 1 1 (bvs [UInt8.ofNat x]) 1 := by
  have e : (bvs [UInt8.ofNat x]).toArray = #[Value.int .u8 (x : Nat)] := by simp [bvs, Nat.mod_eq_of_lt hx]
  have := (bs_new w w.heap.size rfl [UInt8.ofNat x] 5 (0, 0) 1 rfl (by omega) _ e).src
  exact this
def AddPost (w : World) (B g o : Nat) (T : TypeId) (cs : Array Value) (v vl : Value) (l : List UInt8) (most : Nat) (ls : Bool) (ts : List Tok) (t : Tok) (e : Ending) (w' : World) : Prop :=
  (∃ n : Int, Tk.add most l t = (n, []) ∧ (n == 0) = false ∧ e = .returned (.iface 39 (.int .i64 n)) ∧ Below w.heap.size w w') ∨
  (Tk.add most l t = (0, Tk.put l t) ∧ e = .returned .nilIface ∧ Og w w' B g o T cs v vl (Tk.put l t) most ls (if ls = true then ts ++ [t] else ts))
set_option maxRecDepth 100000 in
set_option maxHeartbeats 4000000 in
theorem add_any (t : Tok) {w : World} {B g o most : Nat} {T : TypeId} {cs : Array Value} {v vl : Value} {l : List UInt8} {ls : Bool} {ts : List Tok} (h : Ou w B g o T cs v l most ls vl ts) (ht : Tk.isTok t = true) (hm : most ≤ 4194304) (hl : l.length ≤ most) (hts : ts.length ≤ 100000000) (hB : B ≤ w.heap.size) :
    Calls Tryd.prog 92 #[.pointer (some ⟨g, o, none⟩), .agg #[.int .i64 t.1, .int .i64 t.2]] w (AddPost w B g o T cs v vl l most ls ts t) := by
  have htr := Tk.tok_range ht
  obtain ⟨x, y⟩ := t
  dsimp only at htr
  have HB := Lib.hid (below_alloc w (.cells #[.int .i64 x, .int .i64 y] 47))
  have HO := Lib.hid (h.below HB.out)
  have hrow : (w.alloc (.cells #[.int .i64 x, .int .i64 y] 47)).heap[w.heap.size]? = some (.cells #[.int .i64 x, .int .i64 y] 47 (0, 0)) := heap_alloc_last w _
  have b0 : (w.alloc (.cells #[.int .i64 x, .int .i64 y] 47)).cell? ⟨w.heap.size, 0, none⟩ = some (.int .i64 x) := by rw [cell_of_row _ _ _ _ _ (0, 0) hrow]; rfl
  have b1 : (w.alloc (.cells #[.int .i64 x, .int .i64 y] 47)).cell? ⟨w.heap.size, 1, none⟩ = some (.int .i64 y) := by rw [cell_of_row _ _ _ _ _ (0, 0) hrow]; rfl
  have HR := Lib.hid hrow
  obtain ⟨wb, hwb⟩ : ∃ wb, wb = w.alloc (.cells #[.int .i64 x, .int .i64 y] 47) := ⟨_, rfl⟩
  have HZB : wb.heap.size = w.heap.size + 1 := by rw [hwb]; simp
  have HBW : Hid (Below w.heap.size w wb) := Lib.hid (by rw [hwb]; exact below_alloc _ _)
  have HWB := Lib.hid hwb
  clear hwb
  obtain ⟨av, cv, rfl, hbs⟩ := own_bs h.own (by omega)
  obtain ⟨c0, c1, c2, c3⟩ := HO.out.cells
  have hgz := h.lt
  have HW0 := Lib.hid h
  have hvp : ∀ k, (Value.slice av l.length cv).ownBlock = some k → k < w.heap.size := fun k hk => (h.own.lt k hk).2
  have hlp : ∀ k, vl.ownBlock = some k → k < w.heap.size := fun k hk => (h.ol.lt k hk).2
  have HVP := Lib.hid hvp
  have HLP := Lib.hid hlp
  clear h hbs hrow ht hvp hlp
  by_cases hx : x = 0
  · subst hx
    have hy : y ≤ 255 := htr.2.2.2.2.1 rfl
    have hy0 : 0 ≤ y := htr.2.2.1
    clear htr
    obtain ⟨z, rfl⟩ := Int.eq_ofNat_of_zero_le hy0
    by_cases hbig : most < l.length + 1
    · have HA : Hid (Tk.add most l (0, (z : Int)) = (4, [])) := Lib.hid (by
        unfold Tk.add
        rw [if_neg (fun h => h.1 rfl), if_pos (by show most < l.length + 1; exact hbig)])
      have d1 : decide ((most : Int) - (l.length : Int) < 1) = true := by simp; omega
      go_enter Tryd.func92, Tryd.ntmps92
      go_wp2
      go_quiet (fail)
      go_wp2
      go_ret
      exact .inl ⟨4, HA.out, rfl, rfl, HB.out.trans ((dn_is _ nq).mono HB.out.size)⟩
    · have HA : Hid (Tk.add most l (0, (z : Int)) = (0, Tk.put l (0, (z : Int)))) := Lib.hid (by
        unfold Tk.add
        rw [if_neg (fun h => h.1 rfl), if_neg (by show ¬ most < l.length + 1; exact hbig)])
      have HPUT : Hid (Tk.put l (0, (z : Int)) = l ++ [UInt8.ofNat z]) := Lib.hid (by unfold Tk.put; rw [if_pos rfl, Int.toNat_natCast])
      have d1 : decide ((most : Int) - (l.length : Int) < 1) = false := by simp; omega
      have hzw : IntKind.u8.wrap ((z : Nat) : Int) = (z : Int) := by simp only [IntKind.wrap, IntKind.signed, IntKind.bits]; first | omega | (simp; omega)
      go_enter Tryd.func92, Tryd.ntmps92
      go_wp2
      go_quiet (fail)
      have hd := dn_is (w.alloc (.cells #[.int .i64 0, .int .i64 (z : Nat)] 47)) nq
      have HBA : Hid (Below wb.heap.size wb ((w.alloc (.cells #[.int .i64 0, .int .i64 (z : Nat)] 47)).drewN nq)) := Lib.hid (by rw [HWB.out]; exact hd)
      have HO2 := Lib.hid (HO.out.below hd)
      have HB2 := Lib.hid (below_then HB.out hd)
      have hrow2 := (hd.block w.heap.size (by simp)).trans HR.out
      clear HO HB HR c0 c1 c2 c3 b0 b1 hd HWB
      revert HO2 HB2 hrow2 HBA
      generalize World.drewN _ _ = wa
      intro HBA HO HB hrow
      obtain ⟨c0, c1, c2, c3⟩ := HO.out.cells
      have f0 := HO.out.frozen o
      have f3 := HO.out.frozen (o + 3)
      have b0 : wa.cell? ⟨w.heap.size, 0, none⟩ = some (.int .i64 0) := by rw [cell_of_row _ _ _ _ _ (0, 0) hrow]; rfl
      have b1 : wa.cell? ⟨w.heap.size, 1, none⟩ = some (.int .i64 (z : Nat)) := by rw [cell_of_row _ _ _ _ _ (0, 0) hrow]; rfl
      have HR := Lib.hid hrow
      have hza := HB.out.size
      clear hrow
      go_wp2_with fail
      refine wp_region_noPanic ?_
      refine region_J 12 (fun w' => w'.cell? ⟨g, o, none⟩ = some (.slice av l.length cv) ∧ w'.cell? ⟨w.heap.size, 1, none⟩ = some (.int .i64 (z : Nat))) (by kernel_rfl) ?_
      refine J_take (i := 0) (v := ?_) rfl (by kernel_rfl) (by kernel_rfl) (by kernel_rfl) (by kernel_rfl) (fun _ _ _ h => h) ⟨c0, b1⟩ (by rfl) ?_ ?_
      rotate_left
      · (intro w' hw'; obtain ⟨j0, j1⟩ := hw'; first | (go_simp; done) | (go_simp; with_reducible rfl))
      try simp only [Act.put, List.setIfInBounds_toArray, List.set_cons_zero, List.set_cons_succ]
      refine J_take (i := 1) (v := ?_) rfl (by kernel_rfl) (by kernel_rfl) (by kernel_rfl) (by kernel_rfl) (fun _ _ _ h => h) ⟨c0, b1⟩ (by rfl) ?_ ?_
      rotate_left
      · (intro w' hw'; obtain ⟨j0, j1⟩ := hw'; first | (go_simp; done) | (go_simp; with_reducible rfl))
      try simp only [Act.put, List.setIfInBounds_toArray, List.set_cons_zero, List.set_cons_succ]
      refine J_take (i := 2) (v := ?_) rfl (by kernel_rfl) (by kernel_rfl) (by kernel_rfl) (by kernel_rfl) (fun _ _ _ h => h) ⟨c0, b1⟩ (by rfl) ?_ ?_
      rotate_left
      · (intro w' hw'; obtain ⟨j0, j1⟩ := hw'; first | (go_simp; done) | (go_simp; with_reducible rfl))
      try simp only [Act.put, List.setIfInBounds_toArray, List.set_cons_zero, List.set_cons_succ]
      refine J_take (i := 3) (v := ?_) rfl (by kernel_rfl) (by kernel_rfl) (by kernel_rfl) (by kernel_rfl) (fun _ _ _ h => h) ⟨c0, b1⟩ (by rfl) ?_ ?_
      rotate_left
      · (intro w' hw'; obtain ⟨j0, j1⟩ := hw'; first | (go_simp; done) | (go_simp; with_reducible rfl))
      try simp only [Act.put, List.setIfInBounds_toArray, List.set_cons_zero, List.set_cons_succ]
      refine J_take (i := 4) (v := ?_) rfl (by kernel_rfl) (by kernel_rfl) (by kernel_rfl) (by kernel_rfl) (fun _ _ _ h => h) ⟨c0, b1⟩ (by rfl) ?_ ?_
      rotate_left
      · (intro w' hw'; obtain ⟨j0, j1⟩ := hw'; first | (go_simp; done) | (go_simp; with_reducible rfl))
      try simp only [Act.put, List.setIfInBounds_toArray, List.set_cons_zero, List.set_cons_succ]
      refine J_take (i := 5) (v := ?_) rfl (by kernel_rfl) (by kernel_rfl) (by kernel_rfl) (by kernel_rfl) (fun _ _ _ h => h) ⟨c0, b1⟩ (by rfl) ?_ ?_
      rotate_left
      · (intro w' hw'; obtain ⟨j0, j1⟩ := hw'; first | (go_simp; done) | (go_simp; with_reducible rfl))
      try simp only [Act.put, List.setIfInBounds_toArray, List.set_cons_zero, List.set_cons_succ]
      refine J_take (i := 6) (v := ?_) rfl (by kernel_rfl) (by kernel_rfl) (by kernel_rfl) (by kernel_rfl) (fun _ _ _ h => h) ⟨c0, b1⟩ (by rfl) ?_ ?_
      rotate_left
      · (intro w' hw'; obtain ⟨j0, j1⟩ := hw'; first | (go_simp; done) | (go_simp; with_reducible rfl))
      try simp only [Act.put, List.setIfInBounds_toArray, List.set_cons_zero, List.set_cons_succ]
      refine J_take (i := 7) (v := ?_) rfl (by kernel_rfl) (by kernel_rfl) (by kernel_rfl) (by kernel_rfl) (fun _ _ _ h => h) ⟨c0, b1⟩ (by rfl) ?_ ?_
      rotate_left
      · (intro w' hw'; obtain ⟨j0, j1⟩ := hw'; first | (go_simp; done) | (go_simp; with_reducible rfl))
      try simp only [Act.put, List.setIfInBounds_toArray, List.set_cons_zero, List.set_cons_succ]
      try simp only [hzw]
      refine J_step (i := 8) (by kernel_rfl) rfl (fun K hK => ?_)
      go_simp
      have hal : Below wa.heap.size wa (wa.alloc (.cells #[.int .u8 (z : Nat)] 5)).drew := (below_alloc wa _).trans ((dn_is _ 1).mono (by simp))
      have k0 : (wa.alloc (.cells #[.int .u8 (z : Nat)] 5)).drew.cell? ⟨g, o, none⟩ = some (.slice av l.length cv) := (hal.cell (p := ⟨g, o, none⟩) (by show g < _; omega)).trans c0
      have k1 : (wa.alloc (.cells #[.int .u8 (z : Nat)] 5)).drew.cell? ⟨w.heap.size, 1, none⟩ = some (.int .i64 (z : Nat)) := (hal.cell (p := ⟨w.heap.size, 1, none⟩) (by show w.heap.size < _; exact (Array.getElem?_eq_some_iff.1 HR.out).1)).trans b1
      refine hK.out _ _ (fun _ => ⟨k0, k1⟩) (fun _ => ?_)
      clear hK K
      try simp only [Act.put, List.setIfInBounds_toArray, List.set_cons_zero, List.set_cons_succ]
      refine J_step (i := 9) (by kernel_rfl) rfl (fun K hK => ?_)
      refine step_app tyU rfl _ _ rfl (own_below HO.out.own hal) ((src_b wa z (by omega)).mono (dn_is _ 1)) rfl rfl (by omega) (by omega) (by omega) (by simp; omega) ?_
      intro v2 w2 own2 st2
      have cc2 := Ch.step st2
      have ff2 := st2.block
      rw [← bvs_append] at own2
      obtain ⟨a2, cap2, rfl, _⟩ := own_bs own2 (by omega)
      have m0 : w2.heap[g]? = some (.cells cs T (0, 0)) := (cc2.block g (by simp; omega) (fun e => HO.out.n1 g e rfl)).trans (((HO.out.below hal)).row)
      have m1 : w2.heap[w.heap.size]? = some (.cells #[.int .i64 0, .int .i64 (z : Nat)] 47 (0, 0)) := (cc2.block w.heap.size (by have := (Array.getElem?_eq_some_iff.1 HR.out).1; simp; omega) (fun e => by have := HVP.out _ e; omega)).trans ((hal.block _ ((Array.getElem?_eq_some_iff.1 HR.out).1)).trans HR.out)
      have q0 : w2.cell? ⟨g, o, none⟩ = some (.slice av l.length cv) := by rw [cell_of_row _ _ _ _ _ (0, 0) m0]; exact HO.out.k0
      have q1 : w2.cell? ⟨w.heap.size, 1, none⟩ = some (.int .i64 (z : Nat)) := by rw [cell_of_row _ _ _ _ _ (0, 0) m1]; rfl
      have qf : w2.frozen? ⟨g, o, none⟩ = false := frozen_of_row _ _ _ _ _ m0
      have HG := Lib.hid (Og.text (w := wb) (l2 := l ++ [UInt8.ofNat z]) HO.out rfl (fun _ _ _ => rfl) (fun _ h => .inl h) (fun _ h => .inl h) (Ch.of_below HBA.out) hal cc2 (by rw [List.length_append]; exact own2) ff2)
      have HM1 := Lib.hid m1
      refine hK.out _ _ (fun _ => ⟨q0, q1⟩) (fun _ => ?_)
      clear hK K own2 cc2 ff2 st2 hal k0 k1
      try simp only [Act.put, List.setIfInBounds_toArray, List.set_cons_zero, List.set_cons_succ]
      refine J_step (i := 10) (by kernel_rfl) rfl (fun K hK => ?_)
      go_simp
      refine hK.out _ _ (fun _ => ⟨q0, q1⟩) (fun _ => ?_)
      clear hK K
      try simp only [Act.put, List.setIfInBounds_toArray, List.set_cons_zero, List.set_cons_succ]
      refine J_step (i := 11) (by kernel_rfl) rfl (fun K hK => ?_)
      go_simp
      refine hK.out _ _ (fun _ => ⟨q0, q1⟩) (fun _ => ?_)
      clear hK K
      try simp only [Act.put, List.setIfInBounds_toArray, List.set_cons_zero, List.set_cons_succ]
      refine J_step (i := 12) (by kernel_rfl) rfl (fun K hK => ?_)
      go_simp
      refine hK.out _ _ (fun h => absurd rfl h) (fun _ => ?_)
      clear hK K
      try simp only [Act.put, List.setIfInBounds_toArray, List.set_cons_zero, List.set_cons_succ]
      refine J_done (by kernel_rfl) ?_ _
      refine NoPanic.normal ?_
      have HM3 : Hid ((w2.setCell ⟨g, o, none⟩ (.slice a2 (l.length + 1) cap2)).heap[w.heap.size]? = some (.cells #[.int .i64 0, .int .i64 (z : Nat)] 47 (0, 0))) := Lib.hid ((Below.heap_setCell w2 ⟨g, o, none⟩ _ w.heap.size (by show w.heap.size ≠ g; omega)).trans HM1.out)
      clear HO HB c0 c1 c2 c3 f0 f3 b0 b1 HR hza m0 m1 q0 q1 qf HM1
      revert HG HM3
      generalize World.setCell _ _ _ = w3
      intro HG3 HM3
      have g0' : w3.cell? ⟨w.heap.size, 0, none⟩ = some (.int .i64 0) := by rw [cell_of_row _ _ _ _ _ (0, 0) HM3.out]; rfl
      go_wp2
      go_loop [50] (fun i => i = .int .i64 0) (fun _ => 0)
      case atStart => rfl
      case round =>
        subst hrel
        clear g0'
        obtain ⟨cs3, v3, vl3, h1, h2, h3, h4, h5, h6⟩ := HG3.out
        obtain ⟨_, _, d2, d3⟩ := h1.cells
        have g0 : w3.cell? ⟨w.heap.size, 0, none⟩ = some (.int .i64 0) := by rw [cell_of_row _ _ _ _ _ (0, 0) HM3.out]; rfl
        have g1 : w3.cell? ⟨w.heap.size, 1, none⟩ = some (.int .i64 (z : Nat)) := by rw [cell_of_row _ _ _ _ _ (0, 0) HM3.out]; rfl
        have hgz3 := h1.lt
        have hpz3 := (Array.getElem?_eq_some_iff.1 HM3.out).1
        have hB3 := h6.size
        obtain ⟨la, lc, rfl⟩ : ∃ la lc, vl3 = .slice la ts.length lc := by
          rcases own_nil_or h1.ol with ⟨e, e2⟩ | ⟨g', c', e, _⟩
          · exact ⟨none, 0, by rw [e, e2]⟩
          · exact ⟨_, c', e⟩
        have H1 := Lib.hid h1
        have H2 := Lib.hid h2
        have H3 := Lib.hid h3
        have H4 := Lib.hid h4
        have H5 := Lib.hid h5
        have H6 := Lib.hid h6
        clear h1 h2 h3 h4 h5 h6
        cases ls
        · go_wp2
          go_ret
          exact .inr ⟨HA.out, rfl, by rw [HPUT.out]; exact HG3.out.up HBW.out⟩
        · clear HG3
          go_wp2_with fail
          refine wp_region_noPanic ?_
          refine region_J 10 (fun w' => w'.cell? ⟨g, o + 3, none⟩ = some (.slice la ts.length lc) ∧ w'.cell? ⟨w.heap.size, 0, none⟩ = some (.int .i64 0) ∧ w'.cell? ⟨w.heap.size, 1, none⟩ = some (.int .i64 (z : Nat))) (by kernel_rfl) ?_
          refine J_take (i := 0) (v := ?_) rfl (by kernel_rfl) (by kernel_rfl) (by kernel_rfl) (by kernel_rfl) (fun _ _ _ h => h) ⟨d3, g0, g1⟩ (by rfl) ?_ ?_
          rotate_left
          · (intro w' hw'; obtain ⟨j0, j1, j2⟩ := hw'; first | (go_simp; done) | (go_simp; with_reducible rfl))
          try simp only [Act.put, List.setIfInBounds_toArray, List.set_cons_zero, List.set_cons_succ]
          refine J_take (i := 1) (v := ?_) rfl (by kernel_rfl) (by kernel_rfl) (by kernel_rfl) (by kernel_rfl) (fun _ _ _ h => h) ⟨d3, g0, g1⟩ (by rfl) ?_ ?_
          rotate_left
          · (intro w' hw'; obtain ⟨j0, j1, j2⟩ := hw'; first | (go_simp; done) | (go_simp; with_reducible rfl))
          try simp only [Act.put, List.setIfInBounds_toArray, List.set_cons_zero, List.set_cons_succ]
          refine J_take (i := 2) (v := ?_) rfl (by kernel_rfl) (by kernel_rfl) (by kernel_rfl) (by kernel_rfl) (fun _ _ _ h => h) ⟨d3, g0, g1⟩ (by rfl) ?_ ?_
          rotate_left
          · (intro w' hw'; obtain ⟨j0, j1, j2⟩ := hw'; first | (go_simp; done) | (go_simp; with_reducible rfl))
          try simp only [Act.put, List.setIfInBounds_toArray, List.set_cons_zero, List.set_cons_succ]
          refine J_take (i := 3) (v := ?_) rfl (by kernel_rfl) (by kernel_rfl) (by kernel_rfl) (by kernel_rfl) (fun _ _ _ h => h) ⟨d3, g0, g1⟩ (by rfl) ?_ ?_
          rotate_left
          · (intro w' hw'; obtain ⟨j0, j1, j2⟩ := hw'; first | (go_simp; done) | (go_simp; with_reducible rfl))
          try simp only [Act.put, List.setIfInBounds_toArray, List.set_cons_zero, List.set_cons_succ]
          refine J_take (i := 4) (v := ?_) rfl (by kernel_rfl) (by kernel_rfl) (by kernel_rfl) (by kernel_rfl) (fun _ _ _ h => h) ⟨d3, g0, g1⟩ (by rfl) ?_ ?_
          rotate_left
          · (intro w' hw'; obtain ⟨j0, j1, j2⟩ := hw'; first | (go_simp; done) | (go_simp; with_reducible rfl))
          try simp only [Act.put, List.setIfInBounds_toArray, List.set_cons_zero, List.set_cons_succ]
          refine J_take (i := 5) (v := ?_) rfl (by kernel_rfl) (by kernel_rfl) (by kernel_rfl) (by kernel_rfl) (fun _ _ _ h => h) ⟨d3, g0, g1⟩ (by rfl) ?_ ?_
          rotate_left
          · (intro w' hw'; obtain ⟨j0, j1, j2⟩ := hw'; first | (go_simp; done) | (go_simp; with_reducible rfl))
          try simp only [Act.put, List.setIfInBounds_toArray, List.set_cons_zero, List.set_cons_succ]
          refine J_step (i := 6) (by kernel_rfl) rfl (fun K hK => ?_)
          go_simp
          have hal : Below w3.heap.size w3 (w3.alloc (.cells #[.int .i64 0, .int .i64 (z : Nat)] 47)).drew := (below_alloc w3 _).trans ((dn_is _ 1).mono (by simp))
          have k0 := (hal.cell (p := ⟨g, o + 3, none⟩) hgz3).trans d3
          have k1 := (hal.cell (p := ⟨w.heap.size, 0, none⟩) hpz3).trans g0
          have k2 := (hal.cell (p := ⟨w.heap.size, 1, none⟩) hpz3).trans g1
          refine hK.out _ _ (fun _ => ⟨k0, k1, k2⟩) (fun _ => ?_)
          clear hK K
          try simp only [Act.put, List.setIfInBounds_toArray, List.set_cons_zero, List.set_cons_succ]
          refine J_step (i := 7) (by kernel_rfl) rfl (fun K hK => ?_)
          refine step_app tyT rfl _ _ rfl (own_below H1.out.ol hal) ((src_tok w3 (((0 : Int), ((z : Nat) : Int)) : Tok)).mono (dn_is _ 1)) rfl rfl (by omega) (by omega) (by omega) (by simp; omega) ?_
          intro v5 w5 own5 st5
          have cc5 := Ch.step st5
          have ff5 := st5.block
          rw [← tks_append] at own5
          obtain ⟨a5, cap5, rfl⟩ : ∃ a5 cap5, v5 = .slice a5 (ts.length + 1) cap5 := by
            rcases own_nil_or own5 with ⟨_, e2⟩ | ⟨g', c', e, _⟩
            · omega
            · exact ⟨_, c', e⟩
          have m0 := (cc5.block g (by simp; omega) (fun e => H1.out.n2 g e rfl)).trans (((H1.out.below hal)).row)
          have m1 := (cc5.block w.heap.size (by simp; omega) (fun e => (H5.out _ e).elim (fun h => by have := HLP.out _ h; omega) (fun h => by omega))).trans ((hal.block _ hpz3).trans HM3.out)
          have q0 : w5.cell? ⟨g, o + 3, none⟩ = some (.slice la ts.length lc) := by rw [cell_of_row _ _ _ _ _ (0, 0) m0]; exact H1.out.k3
          have q1 : w5.cell? ⟨w.heap.size, 0, none⟩ = some (.int .i64 0) := by rw [cell_of_row _ _ _ _ _ (0, 0) m1]; rfl
          have q2 : w5.cell? ⟨w.heap.size, 1, none⟩ = some (.int .i64 (z : Nat)) := by rw [cell_of_row _ _ _ _ _ (0, 0) m1]; rfl
          have qf : w5.frozen? ⟨g, o + 3, none⟩ = false := frozen_of_row _ _ _ _ _ m0
          have HG5 := Lib.hid (Og.list (w := wb) (ts2 := ts ++ [(((0 : Int), ((z : Nat) : Int)) : Tok)]) H1.out H2.out H3.out H4.out H5.out H6.out hal cc5 (by rw [List.length_append]; exact own5) ff5)
          refine hK.out _ _ (fun _ => ⟨q0, q1, q2⟩) (fun _ => ?_)
          clear hK K own5 cc5 ff5 st5 hal k0 k1 k2
          try simp only [Act.put, List.setIfInBounds_toArray, List.set_cons_zero, List.set_cons_succ]
          refine J_step (i := 8) (by kernel_rfl) rfl (fun K hK => ?_)
          go_simp
          refine hK.out _ _ (fun _ => ⟨q0, q1, q2⟩) (fun _ => ?_)
          clear hK K
          try simp only [Act.put, List.setIfInBounds_toArray, List.set_cons_zero, List.set_cons_succ]
          refine J_step (i := 9) (by kernel_rfl) rfl (fun K hK => ?_)
          go_simp
          refine hK.out _ _ (fun _ => ⟨q0, q1, q2⟩) (fun _ => ?_)
          clear hK K
          try simp only [Act.put, List.setIfInBounds_toArray, List.set_cons_zero, List.set_cons_succ]
          refine J_step (i := 10) (by kernel_rfl) rfl (fun K hK => ?_)
          go_simp
          refine hK.out _ _ (fun h => absurd rfl h) (fun _ => ?_)
          clear hK K
          try simp only [Act.put, List.setIfInBounds_toArray, List.set_cons_zero, List.set_cons_succ]
          refine J_done (by kernel_rfl) ?_ _
          refine NoPanic.normal ?_
          go_wp2
          go_ret
          exact .inr ⟨HA.out, rfl, by rw [HPUT.out]; exact HG5.out.up HBW.out⟩
  · have hk3 : 3 ≤ x ∧ 1 ≤ y := htr.2.2.2.2.2 hx
    have hk0 : x ≤ 258 ∧ y ≤ 32768 := ⟨htr.2.1, htr.2.2.2.1⟩
    clear htr
    obtain ⟨k, rfl⟩ := Int.eq_ofNat_of_zero_le (show 0 ≤ x by omega)
    obtain ⟨d, rfl⟩ := Int.eq_ofNat_of_zero_le (show 0 ≤ y by omega)
    have hxe : (((k : Nat) : Int) == 0) = false := by simp; omega
    by_cases hfar : l.length < d
    · have HA : Hid (Tk.add most l ((k : Int), (d : Int)) = (2, [])) := Lib.hid (by
        unfold Tk.add
        rw [if_pos ⟨hx, by show (l.length : Int) < (d : Int); omega⟩])
      have d1 : decide (l.length < d) = true := by simpa using hfar
      go_enter Tryd.func92, Tryd.ntmps92
      go_wp2
      go_quiet (fail)
      go_wp2
      go_ret
      exact .inl ⟨2, HA.out, rfl, rfl, HB.out.trans ((dn_is _ nq).mono HB.out.size)⟩
    have d1 : decide (l.length < d) = false := by simpa using hfar
    by_cases hbig : most < l.length + k
    · have HA : Hid (Tk.add most l ((k : Int), (d : Int)) = (4, [])) := Lib.hid (by
        unfold Tk.add Tk.size
        rw [if_neg (fun h => by have := h.2; dsimp only at this; omega), if_neg hx, if_pos (by show most < l.length + (k : Int).toNat; omega)])
      have d2 : decide ((most : Int) - (l.length : Int) < (k : Int)) = true := by simp; omega
      go_enter Tryd.func92, Tryd.ntmps92
      go_wp2
      go_quiet (fail)
      have hd := dn_is (w.alloc (.cells #[.int .i64 (k : Nat), .int .i64 (d : Nat)] 47)) nq
      have HBA : Hid (Below wb.heap.size wb ((w.alloc (.cells #[.int .i64 (k : Nat), .int .i64 (d : Nat)] 47)).drewN nq)) := Lib.hid (by rw [HWB.out]; exact hd)
      have HO2 := Lib.hid (HO.out.below hd)
      have HB2 := Lib.hid (below_then HB.out hd)
      have hrow2 := (hd.block w.heap.size (by simp)).trans HR.out
      clear HO HB HR c0 c1 c2 c3 b0 b1 hd HWB
      revert HO2 HB2 hrow2 HBA
      generalize World.drewN _ _ = wa
      intro HBA HO HB hrow
      obtain ⟨c0, c1, c2, c3⟩ := HO.out.cells
      have f0 := HO.out.frozen o
      have f3 := HO.out.frozen (o + 3)
      have b0 : wa.cell? ⟨w.heap.size, 0, none⟩ = some (.int .i64 (k : Nat)) := by rw [cell_of_row _ _ _ _ _ (0, 0) hrow]; rfl
      have b1 : wa.cell? ⟨w.heap.size, 1, none⟩ = some (.int .i64 (d : Nat)) := by rw [cell_of_row _ _ _ _ _ (0, 0) hrow]; rfl
      have HR := Lib.hid hrow
      have hza := HB.out.size
      clear hrow
      go_wp2
      go_quiet (fail)
      go_wp2
      go_ret
      exact .inl ⟨4, HA.out, rfl, rfl, HB.out.trans ((dn_is _ _).mono HB.out.size)⟩
    have d2 : decide ((most : Int) - (l.length : Int) < (k : Int)) = false := by simp; omega
    have HA : Hid (Tk.add most l ((k : Int), (d : Int)) = (0, Tk.put l ((k : Int), (d : Int)))) := Lib.hid (by
      unfold Tk.add Tk.size
      rw [if_neg (fun h => by have := h.2; dsimp only at this; omega), if_neg hx, if_neg (by show ¬ most < l.length + (k : Int).toNat; omega)])
    have HPUT : Hid (Tk.put l ((k : Int), (d : Int)) = Tk.cp d l k) := Lib.hid (by unfold Tk.put; rw [if_neg hx, Int.toNat_natCast, Int.toNat_natCast])
    go_enter Tryd.func92, Tryd.ntmps92
    go_wp2
    go_quiet (fail)
    have hd := dn_is (w.alloc (.cells #[.int .i64 (k : Nat), .int .i64 (d : Nat)] 47)) nq
    have HBA : Hid (Below wb.heap.size wb ((w.alloc (.cells #[.int .i64 (k : Nat), .int .i64 (d : Nat)] 47)).drewN nq)) := Lib.hid (by rw [HWB.out]; exact hd)
    have HO2 := Lib.hid (HO.out.below hd)
    have HB2 := Lib.hid (below_then HB.out hd)
    have hrow2 := (hd.block w.heap.size (by simp)).trans HR.out
    clear HO HB HR c0 c1 c2 c3 b0 b1 hd HWB
    revert HO2 HB2 hrow2 HBA
    generalize World.drewN _ _ = wa
    intro HBA HO HB hrow
    obtain ⟨c0, c1, c2, c3⟩ := HO.out.cells
    have f0 := HO.out.frozen o
    have f3 := HO.out.frozen (o + 3)
    have b0 : wa.cell? ⟨w.heap.size, 0, none⟩ = some (.int .i64 (k : Nat)) := by rw [cell_of_row _ _ _ _ _ (0, 0) hrow]; rfl
    have b1 : wa.cell? ⟨w.heap.size, 1, none⟩ = some (.int .i64 (d : Nat)) := by rw [cell_of_row _ _ _ _ _ (0, 0) hrow]; rfl
    have HR := Lib.hid hrow
    have hza := HB.out.size
    clear hrow
    go_wp2
    go_quiet (fail)
    have hd := dn_is wa nq
    have HO2 := Lib.hid (HO.out.below hd)
    have HB2 := Lib.hid (below_then HB.out hd)
    have hrow2 := (hd.block w.heap.size ((Array.getElem?_eq_some_iff.1 HR.out).1)).trans HR.out
    have HBA2 := Lib.hid (below_then HBA.out hd)
    clear HO HB HR c0 c1 c2 c3 f0 f3 b0 b1 hza HBA hd
    revert HO2 HB2 hrow2 HBA2
    generalize World.drewN _ _ = wa
    intro HO HB hrow HBA
    obtain ⟨c0, c1, c2, c3⟩ := HO.out.cells
    have f0 := HO.out.frozen o
    have f3 := HO.out.frozen (o + 3)
    have b0 : wa.cell? ⟨w.heap.size, 0, none⟩ = some (.int .i64 (k : Nat)) := by rw [cell_of_row _ _ _ _ _ (0, 0) hrow]; rfl
    have b1 : wa.cell? ⟨w.heap.size, 1, none⟩ = some (.int .i64 (d : Nat)) := by rw [cell_of_row _ _ _ _ _ (0, 0) hrow]; rfl
    have HR := Lib.hid hrow
    have hza := HB.out.size
    clear hrow
    go_wp2
    have HST : Hid (Og wb wa B g o T cs (.slice av l.length cv) vl (Tk.cp d l 0) most ls ts ∧ wa.heap[w.heap.size]? = some (.cells #[.int .i64 (k : Nat), .int .i64 (d : Nat)] 47 (0, 0))) := Lib.hid ⟨⟨cs, _, vl, HO.out, rfl, fun _ _ _ => rfl, fun _ h => .inl h, fun _ h => .inl h, Ch.of_below HBA.out⟩, HR.out⟩
    clear HO HB HR c0 c1 c2 c3 f0 f3 b0 b1 hza HBA
    go_loopw [50] (fun i wr => ∃ j : Nat, j ≤ k ∧ i = .int .i64 j ∧ Hid (Og wb wr B g o T cs (.slice av l.length cv) vl (Tk.cp d l j) most ls ts ∧ wr.heap[w.heap.size]? = some (.cells #[.int .i64 (k : Nat), .int .i64 (d : Nat)] 47 (0, 0)))) (fun i _ => k - (intOf i).toNat)
    case atStart => exact ⟨0, by omega, rfl, HST⟩
    case round =>
      obtain ⟨j, hj, rfl, HK⟩ := hrel
      by_cases hlt : j < k
      · obtain ⟨⟨cs3, v3, vl3, h1, h2, h3, h4, h5, h6⟩, hm3⟩ := HK.out
        have HM3 := Lib.hid hm3
        obtain ⟨d0, _, _, _⟩ := h1.cells
        have hcl := Tk.cp_length d l j
        obtain ⟨n, hn⟩ : ∃ n, n = l.length + j := ⟨_, rfl⟩
        have hdn : d ≤ n := by omega
        have how := h1.own
        rw [hcl, ← hn] at how
        obtain ⟨gv, cap2, rfl⟩ : ∃ gv cap2, v3 = .slice (some ⟨gv, 0, none⟩) n cap2 := by
          rcases own_nil_or how with ⟨_, h⟩ | ⟨gv, c, e, _⟩
          · omega
          · exact ⟨gv, c, e⟩
        have g1 : wr.cell? ⟨w.heap.size, 1, none⟩ = some (.int .i64 (d : Nat)) := by rw [cell_of_row _ _ _ _ _ (0, 0) hm3]; rfl
        have hgz3 := h1.lt
        have hpz3 := (Array.getElem?_eq_some_iff.1 hm3).1
        have hvz3 := (how.lt gv rfl).2
        have hB3 := h6.size
        obtain ⟨bb, hbb⟩ : ∃ bb, bb = gb (Tk.cp d l j) (n - d) := ⟨_, rfl⟩
        have e0 : wr.cell? ⟨gv, n - d, none⟩ = some (.int .u8 (bb : Nat)) := by
          rw [how.cellAt (n - d) (by omega), bvs_get _ _ (by omega), hbb]
        have hb256 : bb < 256 := by rw [hbb]; exact gb_lt _ _
        have HCP : Hid (Tk.cp d l (j + 1) = Tk.cp d l j ++ [UInt8.ofNat bb]) := Lib.hid (by
          rw [Tk.cp, hbb]
          unfold Tk.bk gb
          rw [hcl, ← hn]; simp)
        obtain ⟨q, hq⟩ : ∃ q, q = n - d := ⟨_, rfl⟩
        have hidx : ((n : Nat) : Int) - ((d : Nat) : Int) = ((q : Nat) : Int) := by omega
        have hqn : q < n := by omega
        have hwi : IntKind.i64.wrap ((q : Nat) : Int) = (q : Int) := by
          simp only [IntKind.wrap, IntKind.signed, IntKind.bits]
          first | omega | (simp; omega)
        rw [← hq] at e0
        have HOW := Lib.hid how
        have H1 := Lib.hid h1
        have H2 := Lib.hid h2
        have H3 := Lib.hid h3
        have H4 := Lib.hid h4
        have H5 := Lib.hid h5
        have H6 := Lib.hid h6
        have hnle : n ≤ 4194304 ∧ n = l.length + j := by omega
        obtain ⟨hn1, hn2⟩ := hnle
        have hn3 : l.length + j ≤ n := by omega
        have hn4 : n ≤ l.length + j := by omega
        clear h1 h2 h3 h4 h5 h6 hm3 how hcl hn hn2 hbb HK hq
        go_wp2_with fail
        refine wp_region_noPanic ?_
        refine region_J 23 (fun w' => w'.cell? ⟨g, o, none⟩ = some (.slice (some ⟨gv, 0, none⟩) n cap2) ∧ w'.cell? ⟨w.heap.size, 1, none⟩ = some (.int .i64 (d : Nat)) ∧ w'.cell? ⟨gv, q, none⟩ = some (.int .u8 (bb : Nat))) (by kernel_rfl) ?_
        refine J_take (i := 0) (v := ?_) rfl (by kernel_rfl) (by kernel_rfl) (by kernel_rfl) (by kernel_rfl) (fun _ _ _ h => h) ⟨d0, g1, e0⟩ (by rfl) ?_ ?_
        rotate_left
        · (intro w' hw'; obtain ⟨j0, j1, j2⟩ := hw'; first | (go_simp; done) | (go_simp; with_reducible rfl))
        try simp only [Act.put, List.setIfInBounds_toArray, List.set_cons_zero, List.set_cons_succ]
        refine J_take (i := 1) (v := ?_) rfl (by kernel_rfl) (by kernel_rfl) (by kernel_rfl) (by kernel_rfl) (fun _ _ _ h => h) ⟨d0, g1, e0⟩ (by rfl) ?_ ?_
        rotate_left
        · (intro w' hw'; obtain ⟨j0, j1, j2⟩ := hw'; first | (go_simp; done) | (go_simp; with_reducible rfl))
        try simp only [Act.put, List.setIfInBounds_toArray, List.set_cons_zero, List.set_cons_succ]
        refine J_take (i := 2) (v := ?_) rfl (by kernel_rfl) (by kernel_rfl) (by kernel_rfl) (by kernel_rfl) (fun _ _ _ h => h) ⟨d0, g1, e0⟩ (by rfl) ?_ ?_
        rotate_left
        · (intro w' hw'; obtain ⟨j0, j1, j2⟩ := hw'; first | (go_simp; done) | (go_simp; with_reducible rfl))
        try simp only [Act.put, List.setIfInBounds_toArray, List.set_cons_zero, List.set_cons_succ]
        refine J_take (i := 3) (v := ?_) rfl (by kernel_rfl) (by kernel_rfl) (by kernel_rfl) (by kernel_rfl) (fun _ _ _ h => h) ⟨d0, g1, e0⟩ (by rfl) ?_ ?_
        rotate_left
        · (intro w' hw'; obtain ⟨j0, j1, j2⟩ := hw'; first | (go_simp; done) | (go_simp; with_reducible rfl))
        try simp only [Act.put, List.setIfInBounds_toArray, List.set_cons_zero, List.set_cons_succ]
        refine J_take (i := 4) (v := ?_) rfl (by kernel_rfl) (by kernel_rfl) (by kernel_rfl) (by kernel_rfl) (fun _ _ _ h => h) ⟨d0, g1, e0⟩ (by rfl) ?_ ?_
        rotate_left
        · (intro w' hw'; obtain ⟨j0, j1, j2⟩ := hw'; first | (go_simp; done) | (go_simp; with_reducible rfl))
        try simp only [Act.put, List.setIfInBounds_toArray, List.set_cons_zero, List.set_cons_succ]
        refine J_take (i := 5) (v := ?_) rfl (by kernel_rfl) (by kernel_rfl) (by kernel_rfl) (by kernel_rfl) (fun _ _ _ h => h) ⟨d0, g1, e0⟩ (by rfl) ?_ ?_
        rotate_left
        · (intro w' hw'; obtain ⟨j0, j1, j2⟩ := hw'; first | (go_simp; done) | (go_simp; with_reducible rfl))
        try simp only [Act.put, List.setIfInBounds_toArray, List.set_cons_zero, List.set_cons_succ]
        refine J_take (i := 6) (v := ?_) rfl (by kernel_rfl) (by kernel_rfl) (by kernel_rfl) (by kernel_rfl) (fun _ _ _ h => h) ⟨d0, g1, e0⟩ (by rfl) ?_ ?_
        rotate_left
        · (intro w' hw'; obtain ⟨j0, j1, j2⟩ := hw'; first | (go_simp; done) | (go_simp; with_reducible rfl))
        try simp only [Act.put, List.setIfInBounds_toArray, List.set_cons_zero, List.set_cons_succ]
        refine J_take (i := 7) (v := ?_) rfl (by kernel_rfl) (by kernel_rfl) (by kernel_rfl) (by kernel_rfl) (fun _ _ _ h => h) ⟨d0, g1, e0⟩ (by rfl) ?_ ?_
        rotate_left
        · (intro w' hw'; obtain ⟨j0, j1, j2⟩ := hw'; first | (go_simp; done) | (go_simp; with_reducible rfl))
        try simp only [Act.put, List.setIfInBounds_toArray, List.set_cons_zero, List.set_cons_succ]
        refine J_take (i := 8) (v := ?_) rfl (by kernel_rfl) (by kernel_rfl) (by kernel_rfl) (by kernel_rfl) (fun _ _ _ h => h) ⟨d0, g1, e0⟩ (by rfl) ?_ ?_
        rotate_left
        · (intro w' hw'; obtain ⟨j0, j1, j2⟩ := hw'; first | (go_simp; done) | (go_simp; with_reducible rfl))
        try simp only [Act.put, List.setIfInBounds_toArray, List.set_cons_zero, List.set_cons_succ]
        refine J_take (i := 9) (v := ?_) rfl (by kernel_rfl) (by kernel_rfl) (by kernel_rfl) (by kernel_rfl) (fun _ _ _ h => h) ⟨d0, g1, e0⟩ (by rfl) ?_ ?_
        rotate_left
        · (intro w' hw'; obtain ⟨j0, j1, j2⟩ := hw'; first | (go_simp; done) | (go_simp; with_reducible rfl))
        try simp only [Act.put, List.setIfInBounds_toArray, List.set_cons_zero, List.set_cons_succ]
        refine J_take (i := 10) (v := ?_) rfl (by kernel_rfl) (by kernel_rfl) (by kernel_rfl) (by kernel_rfl) (fun _ _ _ h => h) ⟨d0, g1, e0⟩ (by rfl) ?_ ?_
        rotate_left
        · (intro w' hw'; obtain ⟨j0, j1, j2⟩ := hw'; first | (go_simp; done) | (go_simp; with_reducible rfl))
        try simp only [Act.put, List.setIfInBounds_toArray, List.set_cons_zero, List.set_cons_succ]
        refine J_take (i := 11) (v := ?_) rfl (by kernel_rfl) (by kernel_rfl) (by kernel_rfl) (by kernel_rfl) (fun _ _ _ h => h) ⟨d0, g1, e0⟩ (by rfl) ?_ ?_
        rotate_left
        · (intro w' hw'; obtain ⟨j0, j1, j2⟩ := hw'; first | (go_simp; done) | (go_simp; with_reducible rfl))
        try simp only [Act.put, List.setIfInBounds_toArray, List.set_cons_zero, List.set_cons_succ]
        refine J_take (i := 12) (v := ?_) rfl (by kernel_rfl) (by kernel_rfl) (by kernel_rfl) (by kernel_rfl) (fun _ _ _ h => h) ⟨d0, g1, e0⟩ (by rfl) ?_ ?_
        rotate_left
        · (intro w' hw'; obtain ⟨j0, j1, j2⟩ := hw'; first | (go_simp; done) | (go_simp; with_reducible rfl))
        try simp only [Act.put, List.setIfInBounds_toArray, List.set_cons_zero, List.set_cons_succ]
        refine J_take (i := 13) (v := ?_) rfl (by kernel_rfl) (by kernel_rfl) (by kernel_rfl) (by kernel_rfl) (fun _ _ _ h => h) ⟨d0, g1, e0⟩ (by rfl) ?_ ?_
        rotate_left
        · (intro w' hw'; obtain ⟨j0, j1, j2⟩ := hw'; first | (go_simp; done) | (go_simp; with_reducible rfl))
        try simp only [Act.put, List.setIfInBounds_toArray, List.set_cons_zero, List.set_cons_succ]
        refine J_take (i := 14) (v := ?_) rfl (by kernel_rfl) (by kernel_rfl) (by kernel_rfl) (by kernel_rfl) (fun _ _ _ h => h) ⟨d0, g1, e0⟩ (by rfl) ?_ ?_
        rotate_left
        · (intro w' hw'; obtain ⟨j0, j1, j2⟩ := hw'; first | (go_simp; done) | (go_simp; with_reducible rfl))
        try simp only [Act.put, List.setIfInBounds_toArray, List.set_cons_zero, List.set_cons_succ]
        refine J_take (i := 15) (v := ?_) rfl (by kernel_rfl) (by kernel_rfl) (by kernel_rfl) (by kernel_rfl) (fun _ _ _ h => h) ⟨d0, g1, e0⟩ (by rfl) ?_ ?_
        rotate_left
        · (intro w' hw'; obtain ⟨j0, j1, j2⟩ := hw'; first | (go_simp; done) | (go_simp; with_reducible rfl))
        try simp only [Act.put, List.setIfInBounds_toArray, List.set_cons_zero, List.set_cons_succ]
        refine J_take (i := 16) (v := ?_) rfl (by kernel_rfl) (by kernel_rfl) (by kernel_rfl) (by kernel_rfl) (fun _ _ _ h => h) ⟨d0, g1, e0⟩ (by rfl) ?_ ?_
        rotate_left
        · (intro w' hw'; obtain ⟨j0, j1, j2⟩ := hw'; first | (go_simp; done) | (go_simp; with_reducible rfl))
        try simp only [Act.put, List.setIfInBounds_toArray, List.set_cons_zero, List.set_cons_succ]
        refine J_take (i := 17) (v := ?_) rfl (by kernel_rfl) (by kernel_rfl) (by kernel_rfl) (by kernel_rfl) (fun _ _ _ h => h) ⟨d0, g1, e0⟩ (by rfl) ?_ ?_
        rotate_left
        · (intro w' hw'; obtain ⟨j0, j1, j2⟩ := hw'; first | (go_simp; done) | (go_simp; with_reducible rfl))
        try simp only [Act.put, List.setIfInBounds_toArray, List.set_cons_zero, List.set_cons_succ]
        refine J_take (i := 18) (v := ?_) rfl (by kernel_rfl) (by kernel_rfl) (by kernel_rfl) (by kernel_rfl) (fun _ _ _ h => h) ⟨d0, g1, e0⟩ (by rfl) ?_ ?_
        rotate_left
        · (intro w' hw'; obtain ⟨j0, j1, j2⟩ := hw'; first | (go_simp; done) | (go_simp; with_reducible rfl))
        try simp only [Act.put, List.setIfInBounds_toArray, List.set_cons_zero, List.set_cons_succ]
        refine J_step (i := 19) (by kernel_rfl) rfl (fun K hK => ?_)
        go_simp
        have hal : Below wr.heap.size wr (wr.alloc (.cells #[.int .u8 (bb : Nat)] 5)).drew := (below_alloc wr _).trans ((dn_is _ 1).mono (by simp))
        have k0 := (hal.cell (p := ⟨g, o, none⟩) hgz3).trans d0
        have k1 := (hal.cell (p := ⟨w.heap.size, 1, none⟩) hpz3).trans g1
        have k2 := (hal.cell (p := ⟨gv, q, none⟩) hvz3).trans e0
        refine hK.out _ _ (fun _ => ⟨k0, k1, k2⟩) (fun _ => ?_)
        clear hK K
        try simp only [Act.put, List.setIfInBounds_toArray, List.set_cons_zero, List.set_cons_succ]
        refine J_step (i := 20) (by kernel_rfl) rfl (fun K hK => ?_)
        refine step_app tyU rfl _ _ rfl (own_below HOW.out hal) ((src_b wr bb (by omega)).mono (dn_is _ 1)) rfl rfl (by omega) (by omega) (by omega) (by simp; omega) ?_
        intro v2 w2 own2 st2
        have cc2 := Ch.step st2
        have ff2 := st2.block
        have q2 := (step_keeps (own_below HOW.out hal) own2 st2 q (by omega)).trans k2
        rw [← bvs_append] at own2
        obtain ⟨a2, cap3, rfl, _⟩ := own_bs own2 (by omega)
        have m0 := (cc2.block g (by simp; omega) (fun e => H1.out.n1 g e rfl)).trans (((H1.out.below hal)).row)
        have m1 := (cc2.block w.heap.size (by simp; omega) (fun e => (H4.out _ e).elim (fun h => by have := HVP.out _ h; omega) (fun h => by omega))).trans ((hal.block _ hpz3).trans HM3.out)
        have q0 : w2.cell? ⟨g, o, none⟩ = some (.slice (some ⟨gv, 0, none⟩) n cap2) := by rw [cell_of_row _ _ _ _ _ (0, 0) m0]; exact H1.out.k0
        have q1 : w2.cell? ⟨w.heap.size, 1, none⟩ = some (.int .i64 (d : Nat)) := by rw [cell_of_row _ _ _ _ _ (0, 0) m1]; rfl
        have own3 : w2.ownsRow B 5 1 (.slice a2 (n + 1) cap3) (Tk.cp d l (j + 1)).length (bvs (Tk.cp d l (j + 1))) := by
          have e3 : (Tk.cp d l j ++ [UInt8.ofNat bb]).length = n + 1 := by rw [List.length_append, Tk.cp_length]; simp; omega
          rw [HCP.out, e3]
          exact own2
        have HG := Lib.hid (Og.text (w := wb) H1.out H2.out H3.out H4.out H5.out H6.out hal cc2 own3 ff2)
        have HM1 := Lib.hid m1
        have qf : w2.frozen? ⟨g, o, none⟩ = false := frozen_of_row _ _ _ _ _ m0
        refine hK.out _ _ (fun _ => ⟨q0, q1, q2⟩) (fun _ => ?_)
        clear hK K own2 cc2 ff2 st2 hal k0 k1 k2
        try simp only [Act.put, List.setIfInBounds_toArray, List.set_cons_zero, List.set_cons_succ]
        refine J_step (i := 21) (by kernel_rfl) rfl (fun K hK => ?_)
        go_simp
        refine hK.out _ _ (fun _ => ⟨q0, q1, q2⟩) (fun _ => ?_)
        clear hK K
        try simp only [Act.put, List.setIfInBounds_toArray, List.set_cons_zero, List.set_cons_succ]
        refine J_step (i := 22) (by kernel_rfl) rfl (fun K hK => ?_)
        go_simp
        refine hK.out _ _ (fun _ => ⟨q0, q1, q2⟩) (fun _ => ?_)
        clear hK K
        try simp only [Act.put, List.setIfInBounds_toArray, List.set_cons_zero, List.set_cons_succ]
        refine J_step (i := 23) (by kernel_rfl) rfl (fun K hK => ?_)
        go_simp
        refine hK.out _ _ (fun h => absurd rfl h) (fun _ => ?_)
        clear hK K
        try simp only [Act.put, List.setIfInBounds_toArray, List.set_cons_zero, List.set_cons_succ]
        refine J_done (by kernel_rfl) ?_ _
        refine NoPanic.normal ?_
        have HM4 : Hid ((w2.setCell ⟨g, o, none⟩ (.slice a2 (n + 1) cap3)).heap[w.heap.size]? = some (.cells #[.int .i64 (k : Nat), .int .i64 (d : Nat)] 47 (0, 0))) := Lib.hid ((Below.heap_setCell w2 ⟨g, o, none⟩ _ w.heap.size (by show w.heap.size ≠ g; omega)).trans HM1.out)
        have HK4 := Lib.hid (And.intro HG.out HM4.out)
        clear HG HM4 m0 m1 q0 q1 q2 qf
        go_wp2
        go_roundw
        case rel => exact ⟨j + 1, by omega, by go_num, HK4⟩
        case measure => simp [intOf]; omega
      · obtain rfl : j = k := by omega
        have HG3 := Lib.hid HK.out.1
        have HM3 := Lib.hid HK.out.2
        clear HK
        obtain ⟨cs3, v3, vl3, h1, h2, h3, h4, h5, h6⟩ := HG3.out
        obtain ⟨_, _, d2, d3⟩ := h1.cells
        have g0 : wr.cell? ⟨w.heap.size, 0, none⟩ = some (.int .i64 (j : Nat)) := by rw [cell_of_row _ _ _ _ _ (0, 0) HM3.out]; rfl
        have g1 : wr.cell? ⟨w.heap.size, 1, none⟩ = some (.int .i64 (d : Nat)) := by rw [cell_of_row _ _ _ _ _ (0, 0) HM3.out]; rfl
        have hgz3 := h1.lt
        have hpz3 := (Array.getElem?_eq_some_iff.1 HM3.out).1
        have hB3 := h6.size
        obtain ⟨la, lc, rfl⟩ : ∃ la lc, vl3 = .slice la ts.length lc := by
          rcases own_nil_or h1.ol with ⟨e, e2⟩ | ⟨g', c', e, _⟩
          · exact ⟨none, 0, by rw [e, e2]⟩
          · exact ⟨_, c', e⟩
        have H1 := Lib.hid h1
        have H2 := Lib.hid h2
        have H3 := Lib.hid h3
        have H4 := Lib.hid h4
        have H5 := Lib.hid h5
        have H6 := Lib.hid h6
        clear h1 h2 h3 h4 h5 h6
        cases ls
        · go_wp2
          go_ret
          exact .inr ⟨HA.out, rfl, by rw [HPUT.out]; exact HG3.out.up HBW.out⟩
        · clear HG3
          go_wp2_with fail
          refine wp_region_noPanic ?_
          refine region_J 10 (fun w' => w'.cell? ⟨g, o + 3, none⟩ = some (.slice la ts.length lc) ∧ w'.cell? ⟨w.heap.size, 0, none⟩ = some (.int .i64 (j : Nat)) ∧ w'.cell? ⟨w.heap.size, 1, none⟩ = some (.int .i64 (d : Nat))) (by kernel_rfl) ?_
          refine J_take (i := 0) (v := ?_) rfl (by kernel_rfl) (by kernel_rfl) (by kernel_rfl) (by kernel_rfl) (fun _ _ _ h => h) ⟨d3, g0, g1⟩ (by rfl) ?_ ?_
          rotate_left
          · (intro w' hw'; obtain ⟨j0, j1, j2⟩ := hw'; first | (go_simp; done) | (go_simp; with_reducible rfl))
          try simp only [Act.put, List.setIfInBounds_toArray, List.set_cons_zero, List.set_cons_succ]
          refine J_take (i := 1) (v := ?_) rfl (by kernel_rfl) (by kernel_rfl) (by kernel_rfl) (by kernel_rfl) (fun _ _ _ h => h) ⟨d3, g0, g1⟩ (by rfl) ?_ ?_
          rotate_left
          · (intro w' hw'; obtain ⟨j0, j1, j2⟩ := hw'; first | (go_simp; done) | (go_simp; with_reducible rfl))
          try simp only [Act.put, List.setIfInBounds_toArray, List.set_cons_zero, List.set_cons_succ]
          refine J_take (i := 2) (v := ?_) rfl (by kernel_rfl) (by kernel_rfl) (by kernel_rfl) (by kernel_rfl) (fun _ _ _ h => h) ⟨d3, g0, g1⟩ (by rfl) ?_ ?_
          rotate_left
          · (intro w' hw'; obtain ⟨j0, j1, j2⟩ := hw'; first | (go_simp; done) | (go_simp; with_reducible rfl))
          try simp only [Act.put, List.setIfInBounds_toArray, List.set_cons_zero, List.set_cons_succ]
          refine J_take (i := 3) (v := ?_) rfl (by kernel_rfl) (by kernel_rfl) (by kernel_rfl) (by kernel_rfl) (fun _ _ _ h => h) ⟨d3, g0, g1⟩ (by rfl) ?_ ?_
          rotate_left
          · (intro w' hw'; obtain ⟨j0, j1, j2⟩ := hw'; first | (go_simp; done) | (go_simp; with_reducible rfl))
          try simp only [Act.put, List.setIfInBounds_toArray, List.set_cons_zero, List.set_cons_succ]
          refine J_take (i := 4) (v := ?_) rfl (by kernel_rfl) (by kernel_rfl) (by kernel_rfl) (by kernel_rfl) (fun _ _ _ h => h) ⟨d3, g0, g1⟩ (by rfl) ?_ ?_
          rotate_left
          · (intro w' hw'; obtain ⟨j0, j1, j2⟩ := hw'; first | (go_simp; done) | (go_simp; with_reducible rfl))
          try simp only [Act.put, List.setIfInBounds_toArray, List.set_cons_zero, List.set_cons_succ]
          refine J_take (i := 5) (v := ?_) rfl (by kernel_rfl) (by kernel_rfl) (by kernel_rfl) (by kernel_rfl) (fun _ _ _ h => h) ⟨d3, g0, g1⟩ (by rfl) ?_ ?_
          rotate_left
          · (intro w' hw'; obtain ⟨j0, j1, j2⟩ := hw'; first | (go_simp; done) | (go_simp; with_reducible rfl))
          try simp only [Act.put, List.setIfInBounds_toArray, List.set_cons_zero, List.set_cons_succ]
          refine J_step (i := 6) (by kernel_rfl) rfl (fun K hK => ?_)
          go_simp
          have hal : Below wr.heap.size wr (wr.alloc (.cells #[.int .i64 (j : Nat), .int .i64 (d : Nat)] 47)).drew := (below_alloc wr _).trans ((dn_is _ 1).mono (by simp))
          have k0 := (hal.cell (p := ⟨g, o + 3, none⟩) hgz3).trans d3
          have k1 := (hal.cell (p := ⟨w.heap.size, 0, none⟩) hpz3).trans g0
          have k2 := (hal.cell (p := ⟨w.heap.size, 1, none⟩) hpz3).trans g1
          refine hK.out _ _ (fun _ => ⟨k0, k1, k2⟩) (fun _ => ?_)
          clear hK K
          try simp only [Act.put, List.setIfInBounds_toArray, List.set_cons_zero, List.set_cons_succ]
          refine J_step (i := 7) (by kernel_rfl) rfl (fun K hK => ?_)
          refine step_app tyT rfl _ _ rfl (own_below H1.out.ol hal) ((src_tok wr ((((j : Nat) : Int), ((d : Nat) : Int)) : Tok)).mono (dn_is _ 1)) rfl rfl (by omega) (by omega) (by omega) (by simp; omega) ?_
          intro v5 w5 own5 st5
          have cc5 := Ch.step st5
          have ff5 := st5.block
          rw [← tks_append] at own5
          obtain ⟨a5, cap5, rfl⟩ : ∃ a5 cap5, v5 = .slice a5 (ts.length + 1) cap5 := by
            rcases own_nil_or own5 with ⟨_, e2⟩ | ⟨g', c', e, _⟩
            · omega
            · exact ⟨_, c', e⟩
          have m0 := (cc5.block g (by simp; omega) (fun e => H1.out.n2 g e rfl)).trans (((H1.out.below hal)).row)
          have m1 := (cc5.block w.heap.size (by simp; omega) (fun e => (H5.out _ e).elim (fun h => by have := HLP.out _ h; omega) (fun h => by omega))).trans ((hal.block _ hpz3).trans HM3.out)
          have q0 : w5.cell? ⟨g, o + 3, none⟩ = some (.slice la ts.length lc) := by rw [cell_of_row _ _ _ _ _ (0, 0) m0]; exact H1.out.k3
          have q1 : w5.cell? ⟨w.heap.size, 0, none⟩ = some (.int .i64 (j : Nat)) := by rw [cell_of_row _ _ _ _ _ (0, 0) m1]; rfl
          have q2 : w5.cell? ⟨w.heap.size, 1, none⟩ = some (.int .i64 (d : Nat)) := by rw [cell_of_row _ _ _ _ _ (0, 0) m1]; rfl
          have qf : w5.frozen? ⟨g, o + 3, none⟩ = false := frozen_of_row _ _ _ _ _ m0
          have HG5 := Lib.hid (Og.list (w := wb) (ts2 := ts ++ [((((j : Nat) : Int), ((d : Nat) : Int)) : Tok)]) H1.out H2.out H3.out H4.out H5.out H6.out hal cc5 (by rw [List.length_append]; exact own5) ff5)
          refine hK.out _ _ (fun _ => ⟨q0, q1, q2⟩) (fun _ => ?_)
          clear hK K own5 cc5 ff5 st5 hal k0 k1 k2
          try simp only [Act.put, List.setIfInBounds_toArray, List.set_cons_zero, List.set_cons_succ]
          refine J_step (i := 8) (by kernel_rfl) rfl (fun K hK => ?_)
          go_simp
          refine hK.out _ _ (fun _ => ⟨q0, q1, q2⟩) (fun _ => ?_)
          clear hK K
          try simp only [Act.put, List.setIfInBounds_toArray, List.set_cons_zero, List.set_cons_succ]
          refine J_step (i := 9) (by kernel_rfl) rfl (fun K hK => ?_)
          go_simp
          refine hK.out _ _ (fun _ => ⟨q0, q1, q2⟩) (fun _ => ?_)
          clear hK K
          try simp only [Act.put, List.setIfInBounds_toArray, List.set_cons_zero, List.set_cons_succ]
          refine J_step (i := 10) (by kernel_rfl) rfl (fun K hK => ?_)
          go_simp
          refine hK.out _ _ (fun h => absurd rfl h) (fun _ => ?_)
          clear hK K
          try simp only [Act.put, List.setIfInBounds_toArray, List.set_cons_zero, List.set_cons_succ]
          refine J_done (by kernel_rfl) ?_ _
          refine NoPanic.normal ?_
          go_wp2
          go_ret
          exact .inr ⟨HA.out, rfl, by rw [HPUT.out]; exact HG5.out.up HBW.out⟩
end Go.Proofs.YtfgpmccmalddjaaDoor
end
