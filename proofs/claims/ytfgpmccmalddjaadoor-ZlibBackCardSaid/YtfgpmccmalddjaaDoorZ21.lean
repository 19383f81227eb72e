/- inflate.unpack: its contract. (*Reader).At: its contract. inflate.Inflate: its contract. What inflate's readers answer hangs on the bits alone that they take. What is unpacked is what its tokens come to; and it comes out the same with fewer bytes at most, if they are enough. inflate.isMost: its contract. -/
import Derived.Test.YtfgpmccmalddjaaDoorZ20
import Derived.Deep.RegionHeld3
set_option linter.unusedSimpArgs false
set_option linter.unusedVariables false
section
namespace Go.Proofs.YtfgpmccmalddjaaDoor
open Go.RowKit
attribute [local go_sem] Oper.semAt_some

/-- What unpack answers. -/
def UnpPost (w : World) (bs : List UInt8) (most : Nat) (ls : Bool) (r : Ip.Rs Unp) (e : Ending) (w' : World) : Prop :=
  match r with
  | .ok s q => ∃ gr gb D p5 p6, e = .returned (.tuple #[.pointer (some ⟨gr, 0, none⟩), .nilIface]) ∧ Ir w' D w.heap.size gr gb p5 p6 bs q most ls s ∧ Ch w w' (fun _ => False)
  | .err n => (n == 0) = false ∧ e = .returned (.tuple #[.pointer none, .iface 39 (.int .i64 n)]) ∧ Ch w w' (fun _ => False)
def unpCells (gb most : Nat) (ls : Bool) : Array Value := #[.pointer (some ⟨gb, 0, none⟩), .slice none 0 0, .int .i64 (most : Nat), .bool ls, .slice none 0 0, .pointer none, .pointer none]
/-- The new reader. -/
theorem irx_new {w w1 : World} {gb most : Nat} {v : Value} {bs : List UInt8} {ls : Bool} (h : Rd w1 w.heap.size gb false v bs 0) (hb : Below w.heap.size w w1) (hm : most ≤ 4194304) (hl : bs.length ≤ 1000000000) :
    Irx (w1.alloc (.cells (unpCells gb most ls) 120)) (fun k => k < w.heap.size) w.heap.size w1.heap.size gb v bs 0 (unpCells gb most ls) (.slice none 0 0) (.slice none 0 0) (.pointer none) (.pointer none) most ls ([], []) := by
  have hz := hb.size
  have hg := h.lt
  have hgg := h.hg
  have hb2 := below_alloc w1 (.cells (unpCells gb most ls) 120)
  refine ⟨⟨heap_alloc_last w1 _, rfl, rfl, rfl, rfl, ⟨rfl, .inl ⟨rfl, rfl⟩⟩, ?_, fun k hk => by simp [Value.ownBlock] at hk, fun k hk => by simp [Value.ownBlock] at hk, fun k hk => by simp [Value.ownBlock] at hk⟩, rfl, h.mono hb2, by omega, hm, by simp, by simp, hl, Nat.le_trans hz hb2.size, by omega, fun k hk => ⟨by have := (h.own.lt k hk).2; omega, by simp [Value.ownBlock], by simp [Value.ownBlock]⟩, ⟨by simp [Value.ownBlock], by simp [Value.ownBlock]⟩, rfl, rfl, fun k hk => ⟨by have := hb2.size; omega, by omega, by omega, by simp [Value.ownBlock], by simp [Value.ownBlock], fun e => by have := (h.own.lt k e).1; omega⟩⟩
  cases ls <;> exact ⟨rfl, .inl ⟨rfl, rfl⟩⟩
theorem nums12 {u : List Bool} {q r : Nat} {ns : List Nat} (h : Ip.numbers [1, 2] u q = .ok ns r) : r = q + 3 ∧ ∃ a b, ns = [a, b] ∧ a < 2 ∧ b < 4 := by
  change Ip.bind (Ip.take 1) (fun n => Ip.bind (Ip.numbers [2]) fun ns => Ip.pure (n :: ns)) u q = .ok ns r at h
  cases h1 : Ip.take 1 u q with
  | err n => rw [Ip.bind_err h1] at h; cases h
  | ok a q1 =>
    rw [Ip.bind_ok h1] at h
    have l1 := Ip.take_lt h1
    have e1 : q1 = q + 1 := by
      unfold Ip.take at h1
      split at h1
      · cases h1; rfl
      · cases h1
    change Ip.bind (Ip.bind (Ip.take 2) (fun n => Ip.bind (Ip.numbers []) fun ns => Ip.pure (n :: ns))) (fun ns => Ip.pure (a :: ns)) u q1 = .ok ns r at h
    cases h2 : Ip.take 2 u q1 with
    | err n => rw [Ip.bind2_err h2] at h; cases h
    | ok b q2 =>
      rw [Ip.bind2_ok h2] at h
      have l2 := Ip.take_lt h2
      have e2 : q2 = q1 + 2 := by
        unfold Ip.take at h2
        split at h2
        · cases h2; rfl
        · cases h2
      cases h
      exact ⟨by omega, a, b, rfl, by omega, by omega⟩
section
variable {w : World} {most : Nat} {bs : List UInt8} {ls : Bool}
set_option maxRecDepth 100000 in
set_option maxHeartbeats 4000000 in
theorem unpack_any (dyn : Unp → Ip.Pr Unp) (hmn : ∀ s, Ip.Mono (dyn s)) (a : Option Addr) (len cap : Nat) (H : Bs w a len cap bs) (hl : bs.length ≤ 1000000000) (hm : most ≤ 4194304)
    (hd : ((∀ s u p, dyn s u p = .err 99) ∧ Ip.unpP dyn most (lob bs) 0 ≠ .err 99) ∨ (∀ wr D B gr gb p5 p6 p s, Ch w wr (fun _ => False) → (∀ k, k < w.heap.size → D k) → Ir wr D B gr gb p5 p6 bs p most ls s → Fx wr D p5 p6 → Calls Tryd.prog 77 #[.pointer (some ⟨gr, 0, none⟩), .int .i64 2] wr (BlPost wr D B gr gb bs most ls (Ip.blockP dyn most s 2 (lob bs) p)))) :
    Calls Tryd.prog 63 #[.slice a len cap, .int .i64 (most : Nat), .bool ls] w (UnpPost w bs most ls (Ip.unpP dyn most (lob bs) 0)) := by
  have HD := Lib.hid hd
  have HMN := Lib.hid hmn
  have HLL := Lib.hid hl
  have hlen : len ≤ 140737488355328 := by have := H.hlen; omega
  have HNR := Lib.hid (newReader_any false a len cap bs w H hlen)
  have d1 : decide (((most : Nat) : Int) ≤ 4194304) = true := by simp; omega
  clear hd hmn hl H
  go_enter Tryd.func63, Tryd.ntmps63
  go_wp2_with fail
  have HMO : Hid (Calls Tryd.prog 74 #[.int .i64 (most : Nat)] w (fun e w' => e = .returned (.bool true) ∧ w = w')) := Lib.hid (by
    go_enter Tryd.func74, Tryd.ntmps74
    go_wp2
    go_ret
    exact ⟨rfl, rfl⟩)
  refine HMO.out.mono ?_
  rintro e w' ⟨rfl, rfl⟩
  go_wp2_with fail
  refine HNR.out.mono ?_
  rintro e w1 ⟨gb, v, rfl, hrd, hb1⟩
  have HIX := Lib.hid (irx_new (ls := ls) hrd hb1 hm HLL.out)
  have HBB := Lib.hid (below_then hb1 (below_alloc w1 (.cells (unpCells gb most ls) 120)))
  clear hrd hb1 HNR HMO
  go_wp2
  unfold unpCells at HIX HBB
  revert HIX HBB
  generalize World.alloc _ _ = w2
  intro HIX HBB
  have hgr : w1.heap.size < w2.heap.size := HIX.out.ou.lt
  generalize w1.heap.size = gr at *
  have HS : Hid (Ir w2 (fun k => k < w.heap.size) w.heap.size gr gb (.pointer none) (.pointer none) bs 0 most ls ([], []) ∧ Fx w2 (fun k => k < w.heap.size) (.pointer none) (.pointer none) ∧ (∀ k, k < w.heap.size → k < w.heap.size) ∧ Ch w w2 (fun _ => False) ∧ 8 * bs.length - 0 < Ip.big ∧ Ip.unpP dyn most (lob bs) 0 = Ip.loop (Ip.unpStep dyn most) Ip.big ([], []) (lob bs) 0) := Lib.hid ⟨⟨v, _, _, _, HIX.out⟩, .inl ⟨rfl, rfl⟩, fun _ h => h, Ch.of_below HBB.out, by have := HLL.out; unfold Ip.big; omega, rfl⟩
  have HSZ := Lib.hid HBB.out.size
  clear HIX HBB hgr
  go_loopg [] (8 * bs.length) (fun gk wr => ∃ q s D p5 p6 f, gk = 8 * bs.length - q ∧ Hid (Ir wr D w.heap.size gr gb p5 p6 bs q most ls s ∧ Fx wr D p5 p6 ∧ (∀ k, k < w.heap.size → D k) ∧ Ch w wr (fun _ => False) ∧ 8 * bs.length - q < f ∧ Ip.unpP dyn most (lob bs) 0 = Ip.loop (Ip.unpStep dyn most) f s (lob bs) q))
  case atStart => exact ⟨0, _, _, _, _, _, by omega, HS⟩
  case round =>
    obtain ⟨q, s2, D, p5, p6, f, rfl, HK⟩ := hrel
    obtain ⟨hir, hfx, hDD, hch, hf, hsp⟩ := HK.out
    obtain ⟨f, rfl⟩ : ∃ f', f = f' + 1 := ⟨f - 1, by omega⟩
    have hb1 := below_alloc wr (.cells #[.int .i64 1, .int .i64 2] 3)
    have hm1 := hir.mono hb1
    have HN := Lib.hid (irNums hm1 (a := some ⟨wr.heap.size, 0, none⟩) (len := 2) (cap := 2) (cnts := [1, 2]) (is_alloc wr [1, 2] (by intro n hn; simp at hn; rcases hn with rfl | rfl <;> decide +kernel) (by simp)) (by
      intro ad e; cases e
      obtain ⟨vb, cs, v, vl, k⟩ := hir
      have := k.rd.lt
      intro hh; simp only at hh; omega) (by omega) (by intro c hc; simp at hc; omega))
    have HFX : Hid (Fx (wr.alloc (.cells #[.int .i64 1, .int .i64 2] 3)) D p5 p6) := Lib.hid (hfx.kept (Ch.of_below hb1))
    have HCH : Hid (Ch w (wr.alloc (.cells #[.int .i64 1, .int .i64 2] 3)) (fun _ => False)) := Lib.hid (hch.trans (Ch.of_below (T := fun _ => False) hb1) (fun n hn => hn.elim))
    have HDD := Lib.hid hDD
    have HSP : Hid (Ip.unpP dyn most (lob bs) 0 = Ip.bind (Ip.unpStep dyn most s2) (Ip.next (Ip.loop (Ip.unpStep dyn most) f)) (lob bs) q) := Lib.hid (by rw [hsp]; rfl)
    clear hir hfx hDD hch hsp HK hb1 hm1
    go_wp2_with fail
    revert HN HFX HCH
    generalize World.alloc _ _ = w3
    intro HN HFX HCH
    refine HN.out.mono ?_
    cases h1 : Ip.numbers [1, 2] (lob bs) q with
    | err n =>
      rintro e w4 ⟨hn, rfl, hch4⟩
      have HP : Hid (UnpPost w bs most ls (Ip.unpP dyn most (lob bs) 0) (.returned (.tuple #[.pointer none, .iface 39 (.int .i64 n)])) w4) := Lib.hid (by
        rw [HSP.out]; unfold Ip.unpStep; rw [Ip.bind2_err h1]
        exact ⟨hn, rfl, HCH.out.trans hch4 (fun n hn => by
          by_cases hx : n < w.heap.size
          · exact absurd (HDD.out n hx) hn
          · exact .inr (by omega))⟩)
      clear hch4 h1 hn
      go_wp2
      go_ret2
      exact HP.out
    | ok ns r =>
      rintro e w4 ⟨v4, rfl, hown, hir4, hch4⟩
      obtain ⟨rfl, k0, k1, rfl, hk0, hk1⟩ := nums12 h1
      have HS2 : Hid (Ip.unpP dyn most (lob bs) 0 = Ip.bind (Ip.bind (Ip.blockP dyn most s2 k1) fun s' => Ip.pure (if k0 = 1 then .inr s' else .inl s')) (Ip.next (Ip.loop (Ip.unpStep dyn most) f)) (lob bs) (q + 3)) := Lib.hid (by
        rw [HSP.out]; exact Ip.bind2_ok h1)
      obtain ⟨gn, cn, hv⟩ : ∃ gn cn, v4 = .slice (some ⟨gn, 0, none⟩) 2 cn := by
        rcases own_nil_or hown with ⟨_, h0⟩ | ⟨g, cap, h0, _⟩
        · simp at h0
        · exact ⟨g, cap, h0⟩
      subst hv
      have n0 : w4.cell? ⟨gn, 0, none⟩ = some (.int .i64 ((k0 : Nat) : Int)) := hown.cellAt 0 (by simp)
      have n1 : w4.cell? ⟨gn, 1, none⟩ = some (.int .i64 ((k1 : Nat) : Int)) := hown.cellAt 1 (by simp)
      obtain ⟨D4, hD4⟩ : ∃ D4 : Nat → Prop, D4 = fun k => D k ∨ (Value.slice (some ⟨gn, 0, none⟩) 2 cn).ownBlock = some k := ⟨_, rfl⟩
      rw [← hD4] at hir4
      have hDl : ∀ k, D k → D4 k := fun k hk => by rw [hD4]; exact .inl hk
      have hDn : D4 gn := by rw [hD4]; exact .inr rfl
      have hgn := (hown.lt gn rfl).2
      have hfx4 : Fx w4 D4 p5 p6 := by
        rcases HFX.out.kept hch4 with h | ⟨g5, g6, h5, h6, z5, z6⟩
        · exact .inl h
        · exact .inr ⟨g5, g6, h5, h6, z5.wide hDl, z6.wide hDl⟩
      have hcc : ∀ w', Ch w4 w' (fun k => ¬ D4 k) → Ch w w' (fun _ => False) := fun w' c => (HCH.out.trans hch4 (fun n hn => by
        by_cases hx : n < w.heap.size
        · exact absurd (HDD.out n hx) hn
        · exact .inr (by omega))).trans c (fun n hn => by
        by_cases hx : n < w.heap.size
        · exact absurd (hDl n (HDD.out n hx)) hn
        · exact .inr (by omega))
      have HCC := Lib.hid hcc
      have HC4 : Hid (Ch w w4 (fun _ => False)) := Lib.hid (hcc w4 (Ch.refl _ _))
      have HD4 : Hid (∀ k, k < w.heap.size → D4 k) := Lib.hid (fun k hk => hDl k (HDD.out k hk))
      have HBK : Hid (Calls Tryd.prog 77 #[.pointer (some ⟨gr, 0, none⟩), .int .i64 ((k1 : Nat) : Int)] w4 (BlPost w4 D4 w.heap.size gr gb bs most ls (Ip.blockP dyn most s2 k1 (lob bs) (q + 3)))) := Lib.hid (by
        match k1, hk1, HS2 with
        | 0, _, _ => exact block_0 dyn hir4 hfx4
        | 1, _, _ => exact block_1 dyn hir4 hfx4
        | 2, _, h2 =>
          rcases HD.out with ⟨hf99, hne⟩ | hb2
          · exact absurd (h2.out.trans (Ip.bind2_err (hf99 s2 (lob bs) (q + 3)))) hne
          · exact hb2 _ _ _ _ _ _ _ _ _ HC4.out HD4.out hir4 hfx4
        | 3, _, _ => exact block_3 dyn hir4)
      have hqp : q + 3 ≤ 8 * bs.length := hir4.place.1
      have HNX : Hid (∀ w', Ch w4 w' (fun k => ¬ D4 k) → w'.cell? ⟨gn, 0, none⟩ = some (.int .i64 ((k0 : Nat) : Int))) := Lib.hid (fun w' c => (c.own hown (fun k hk hn => hn (by rw [hD4]; exact .inr hk))).cellAt 0 (by simp))
      have HDD4 : Hid (∀ k, k < w.heap.size → D4 k) := Lib.hid (fun k hk => hDl k (HDD.out k hk))
      clear hown hir4 hch4 h1 HN HFX HCH HSP hfx4 hcc hD4 n0 HDD hDl hDn hgn hk1
      cases hy : Ip.blockP dyn most s2 k1 (lob bs) (q + 3) with
      | err n =>
        rw [hy] at HBK
        have HX : Hid (Ip.unpP dyn most (lob bs) 0 = .err n) := Lib.hid (by rw [HS2.out]; exact Ip.bind2_err hy)
        clear hy HS2
        go_wp2_with fail
        refine HBK.out.mono ?_
        rintro e w5 ⟨hn, rfl, hch5⟩
        have HP : Hid (UnpPost w bs most ls (Ip.unpP dyn most (lob bs) 0) (.returned (.tuple #[.pointer none, .iface 39 (.int .i64 n)])) w5) := Lib.hid (by
          rw [HX.out]; exact ⟨hn, rfl, HCC.out _ hch5⟩)
        clear hch5 hn
        go_wp2
        go_ret2
        exact HP.out
      | ok s3 t =>
        rw [hy] at HBK
        have hqt : q + 3 ≤ t := Ip.mono_blockP HMN.out most s2 k1 _ _ _ _ hy
        have HS3 : Hid (Ip.unpP dyn most (lob bs) 0 = Ip.bind (Ip.pure (if k0 = 1 then .inr s3 else .inl s3)) (Ip.next (Ip.loop (Ip.unpStep dyn most) f)) (lob bs) t) := Lib.hid (by rw [HS2.out]; exact Ip.bind2_ok hy)
        clear hy HS2
        go_wp2_with fail
        refine HBK.out.mono ?_
        rintro e w5 ⟨rfl, ⟨D5, r5, r6, h5a, h5b, hir5, hfx5⟩, hch5⟩
        have m0 := HNX.out _ hch5
        have htp := hir5.place.1
        rcases (show k0 = 0 ∨ k0 = 1 by omega) with rfl | rfl
        · have HX5 : Hid (Ir w5 D5 w.heap.size gr gb r5 r6 bs t most ls s3 ∧ Fx w5 D5 r5 r6 ∧ (∀ k, k < w.heap.size → D5 k) ∧ Ch w w5 (fun _ => False) ∧ 8 * bs.length - t < f ∧ Ip.unpP dyn most (lob bs) 0 = Ip.loop (Ip.unpStep dyn most) f s3 (lob bs) t) := Lib.hid ⟨hir5, hfx5, fun k hk => h5a k (HDD4.out k hk), HCC.out _ hch5, by omega, by rw [HS3.out]; rfl⟩
          clear hir5 hfx5 hch5 h5a h5b HNX HCC HDD4 HS3 HBK
          go_wp2
          go_roundg (8 * bs.length - t)
          case rel => exact ⟨t, s3, D5, r5, r6, f, rfl, HX5⟩
          case measure => omega
        · have HP : Hid (UnpPost w bs most ls (Ip.unpP dyn most (lob bs) 0) (.returned (.tuple #[.pointer (some ⟨gr, 0, none⟩), .nilIface])) w5) := Lib.hid (by
            have e : Ip.unpP dyn most (lob bs) 0 = .ok s3 t := by rw [HS3.out]; rfl
            rw [e]; exact ⟨gr, gb, D5, r5, r6, rfl, hir5, HCC.out _ hch5⟩)
          clear hir5 hfx5 hch5 h5a h5b HNX HCC HDD4 HS3 HBK
          go_wp2
          go_ret2
          exact HP.out
end
end Go.Proofs.YtfgpmccmalddjaaDoor
end

section
namespace Go.Proofs.YtfgpmccmalddjaaDoor
open Go.RowKit

theorem at_any (w : World) (B g : Nat) (h : Bool) (v : Value) (l : List UInt8) (p : Nat) (H : Rd w B g h v l p) :
    Calls Tryd.prog 64 #[.pointer (some ⟨g, 0, none⟩)] w fun e w' => e = .returned (.int .i64 (p : Nat)) ∧ w = w' := by
  have c2 := H.c2
  clear H
  go_enter Tryd.func64, Tryd.ntmps64
  go_wp2
  go_ret
  exact ⟨rfl, rfl⟩
end Go.Proofs.YtfgpmccmalddjaaDoor
end

section
namespace Go.Proofs.YtfgpmccmalddjaaDoor
open Go.RowKit
attribute [local go_sem] Oper.semAt_some

/-- What Inflate answers. -/
def InfPost (w : World) (r : Ip.Rs Unp) (e : Ending) (w' : World) : Prop :=
  match r with
  | .ok s q => ∃ v, e = .returned (.tuple #[v, .int .i64 (((q + 7) / 8 : Nat) : Int), .nilIface]) ∧ w'.ownsRow w.heap.size 5 1 v s.1.length (bvs s.1) ∧ Ch w w' (fun _ => False)
  | .err n => (n == 0) = false ∧ e = .returned (.tuple #[.slice none 0 0, .int .i64 0, .iface 39 (.int .i64 n)]) ∧ Ch w w' (fun _ => False)
section
variable {w : World} {most : Nat} {bs : List UInt8}
set_option maxRecDepth 100000 in
set_option maxHeartbeats 4000000 in
theorem inflate_any (r : Ip.Rs Unp) (a : Option Addr) (len cap : Nat) (HU : Calls Tryd.prog 63 #[.slice a len cap, .int .i64 (most : Nat), .bool false] w (UnpPost w bs most false r)) :
    Calls Tryd.prog 40 #[.slice a len cap, .int .i64 (most : Nat)] w (InfPost w r) := by
  have HH := Lib.hid HU
  clear HU
  go_enter Tryd.func40, Tryd.ntmps40
  go_wp2_with fail
  refine HH.out.mono ?_
  cases r with
  | err n =>
    rintro e w1 ⟨hn, rfl, hch⟩
    have HP : Hid (InfPost w (.err n) (.returned (.tuple #[.slice none 0 0, .int .i64 0, .iface 39 (.int .i64 n)])) w1) := Lib.hid ⟨hn, rfl, hch⟩
    clear hch hn HH
    go_wp2
    go_ret3
    exact HP.out
  | ok s q =>
    rintro e w1 ⟨gr, gb, D, p5, p6, rfl, hir, hch⟩
    obtain ⟨vb, cs, v, vl, k⟩ := hir
    have hq : q ≤ 8000000000 := by have := k.hp; have := k.hbl; omega
    have t1 : w1.cell? ⟨gr, 1, none⟩ = some v := k.ou.cells.1
    have t0 : w1.cell? ⟨gr, 0, none⟩ = some (.pointer (some ⟨gb, 0, none⟩)) := by rw [cell_of_row _ _ _ _ _ (0, 0) k.ou.row]; exact k.c0
    have HAT := Lib.hid (fun m => at_any (w1.drewN m) w.heap.size gb false vb bs q (k.rd.mono (dn_is w1 m)))
    have HAT1 := Lib.hid (at_any w1.drew w.heap.size gb false vb bs q (k.rd.mono (dn_is w1 1)))
    have hdv : IntKind.i64.wrap ((IntKind.i64.wrap (((q : Nat) : Int) + 7)).tdiv 8) = (((q + 7) / 8 : Nat) : Int) := by
      rw [IntWalk.i64_in (((q : Nat) : Int) + 7) ⟨by omega, by omega⟩, Int.tdiv_eq_ediv_of_nonneg (by omega), IntWalk.i64_in _ ⟨by omega, by omega⟩]; omega
    have HDV := Lib.hid hdv
    clear hdv
    obtain ⟨av, cv, rfl, _⟩ := own_bs k.ou.own (by have := k.hl; have := k.hm; omega)
    have HP : Hid (∀ m, InfPost w (.ok s q) (.returned (.tuple #[.slice av s.1.length cv, .int .i64 (((q + 7) / 8 : Nat) : Int), .nilIface])) (w1.drewN m)) := Lib.hid (fun m => ⟨_, rfl, own_below k.ou.own (dn_is w1 m), hch.trans (Ch.of_below (T := fun _ => False) (dn_is w1 m)) (fun n hn => hn.elim)⟩)
    clear k hch HH
    go_wp2_with fail
    go_region_held3 (fun w' => w'.cell? ⟨gr, 0, none⟩ = some (.pointer (some ⟨gb, 0, none⟩)) ∧ w'.cell? ⟨gr, 1, none⟩ = some (.slice av s.1.length cv)) (go_keep)
      (first | (go_at_call 64; refine HAT1.out.mono ?_; rintro e w' ⟨rfl, rfl⟩))
    go_wp2
    go_ret3
    have h9 := HP.out 1
    rw [← HDV.out] at h9
    exact h9
end
end Go.Proofs.YtfgpmccmalddjaaDoor
end

section
namespace Go.Proofs.YtfgpmccmalddjaaDoor
open Go.RowKit

namespace Ip
theorem take_le_agree {u v : List Bool} {m n : Nat} (h : v.take n = u.take n) (hm : m ≤ n) : v.take m = u.take m := by
  have := congrArg (List.take m) h
  rwa [List.take_take, List.take_take, Nat.min_eq_left hm] at this
theorem hit_congr {u v : List Bool} {n : Nat} (h : v.take n = u.take n) (c : Int × List Bool) : Cn.hit v n c = Cn.hit u n c := by
  unfold Cn.hit Cn.same
  rw [take_le_agree h (Nat.min_le_left n c.2.length)]
theorem more_congr {u v : List Bool} {n : Nat} (h : v.take n = u.take n) (c : Int × List Bool) : Cn.more v n c = Cn.more u n c := by
  unfold Cn.more Cn.same
  rw [take_le_agree h (Nat.min_le_left n c.2.length)]
theorem rdAt_ge (ks : List (Int × List Bool)) (u : List Bool) : ∀ f m, (Cn.rdAt ks u f m).2.2 = 0 → m ≤ (Cn.rdAt ks u f m).2.1
  | 0, m, h => by simp [Cn.rdAt] at h
  | f + 1, m, h => by
    rw [Cn.rdAt] at h ⊢
    split at h
    · simp at h
    · rename_i hl
      rw [if_neg hl]
      split at h
      · exact Nat.le_refl _
      · split at h
        · rename_i hm
          rw [if_pos hm]
          have := rdAt_ge ks u f (m + 1) h
          omega
        · simp at h
theorem rdAt_ext (ks : List (Int × List Bool)) (u v : List Bool) : ∀ f m, (Cn.rdAt ks u f m).2.2 = 0 → v.take (Cn.rdAt ks u f m).2.1 = u.take (Cn.rdAt ks u f m).2.1 → (Cn.rdAt ks u f m).2.1 ≤ v.length → Cn.rdAt ks v f m = Cn.rdAt ks u f m
  | 0, m, h, _, _ => by simp [Cn.rdAt] at h
  | f + 1, m, h, ha, hl => by
    have hge := rdAt_ge ks u (f + 1) m h
    have hm := take_le_agree ha hge
    have eh : Cn.hit v m = Cn.hit u m := funext (hit_congr hm)
    have em : Cn.more v m = Cn.more u m := funext (more_congr hm)
    rw [Cn.rdAt] at h ha hl ⊢
    rw [Cn.rdAt, eh, em]
    split at h
    · simp at h
    · rename_i hu
      rw [if_neg hu] at ha hl ⊢
      rw [if_neg (by
        rw [Cn.rdAt, if_neg hu] at hge
        omega)]
      split at h
      · rfl
      · rename_i hc
        rw [hc] at ha hl
        dsimp only at ha hl
        split at h
        · rename_i hmm
          rw [if_pos hmm] at ha hl
          rw [if_pos hmm, if_pos hmm]
          exact rdAt_ext ks u v f (m + 1) h ha hl
        · simp at h
theorem rdAt_cut (ks : List (Int × List Bool)) (u : List Bool) (k : Nat) : ∀ f m, (Cn.rdAt ks u f m).2.2 = 0 → k < (Cn.rdAt ks u f m).2.1 → (Cn.rdAt ks (u.take k) f m).2.2 = 8
  | 0, m, h, _ => by simp [Cn.rdAt] at h
  | f + 1, m, h, hk => by
    rw [Cn.rdAt] at h hk ⊢
    split at h
    · simp at h
    · rename_i hu
      rw [if_neg hu] at hk
      by_cases hmk : k < m
      · rw [if_pos (by rw [List.length_take]; omega)]
      · have hm : (u.take k).take m = u.take m := by rw [List.take_take, Nat.min_eq_left (by omega)]
        have eh : Cn.hit (u.take k) m = Cn.hit u m := funext (hit_congr hm)
        have em : Cn.more (u.take k) m = Cn.more u m := funext (more_congr hm)
        rw [if_neg (by rw [List.length_take]; omega), eh, em]
        split at h
        · rename_i c hc
          rw [hc] at hk
          exact absurd hk (by show ¬ k < m; exact hmk)
        · rename_i hc
          rw [hc] at hk
          dsimp only at hk ⊢
          split at h
          · rename_i hmm
            rw [if_pos hmm] at hk ⊢
            exact rdAt_cut ks u k f (m + 1) h hk
          · simp at h
theorem rd_ext (ks : List (Int × List Bool)) (u v : List Bool) (h : (Cn.rd ks u).2.2 = 0) (ha : v.take (Cn.rd ks u).2.1 = u.take (Cn.rd ks u).2.1) (hl : (Cn.rd ks u).2.1 ≤ v.length) : Cn.rd ks v = Cn.rd ks u := by
  unfold Cn.rd at *
  split at h
  · simp at h
  · rename_i hk
    rw [if_neg hk] at ha hl ⊢
    rw [if_neg hk]
    exact rdAt_ext ks u v 16 1 h ha hl
theorem rd_cut (ks : List (Int × List Bool)) (u : List Bool) (k : Nat) (h : (Cn.rd ks u).2.2 = 0) (hk : k < (Cn.rd ks u).2.1) : (Cn.rd ks (u.take k)).2.2 = 8 := by
  unfold Cn.rd at *
  split at h
  · simp at h
  · rename_i hks
    rw [if_neg hks] at hk ⊢
    exact rdAt_cut ks u k 16 1 h hk
theorem loc_rdP (R : Nat → List Nat) : Loc (rdP R) := by
  refine ⟨fun u p a q h hp hd => ?_, fun u v p a q h hp hd hv ha hl => ?_, fun u v p a q h hp hd hv he h1 h2 => ?_⟩
  · unfold rdP at h
    split at h
    · rename_i h0
      have := rd_le _ _ h0
      rw [List.length_drop] at this
      cases h
      omega
    · cases h
  · unfold rdP at h ⊢
    split at h
    · rename_i h0
      have hr := rd_le _ _ h0
      cases h
      have e : (v.drop p).take (Cn.rd (Bk.ks R) (u.drop p)).2.1 = (u.drop p).take (Cn.rd (Bk.ks R) (u.drop p)).2.1 := drop_agree ha
      rw [rd_ext _ (u.drop p) (v.drop p) h0 e (by rw [List.length_drop]; omega), if_pos h0]
    · cases h
  · unfold rdP at h ⊢
    split at h
    · rename_i h0
      cases h
      have e : v.drop p = (u.drop p).take (v.length - p) := by
        rw [he, List.drop_take, List.length_take, Nat.min_eq_left (by have := congrArg List.length he; rw [List.length_take] at this; omega)]
      have h8 := rd_cut _ (u.drop p) (v.length - p) h0 (by omega)
      rw [e, if_neg (by rw [h8]; decide), h8]
    · cases h
theorem loc_congr {α : Type} {f g : Pr α} (h : f = g) (hg : Loc g) : Loc f := h ▸ hg
theorem loc_addP (most : Nat) (t : Tok) (s : Unp) : Loc (addP most t s) :=
  loc_congr (show addP most t s = if (Tk.add most s.1 t).1 = 0 then pure (Tk.put s.1 t, s.2 ++ [t]) else fail (Tk.add most s.1 t).1 by
    unfold addP; split <;> rfl) (loc_ite _ (loc_pure _) (loc_fail _))
theorem loc_aboveP (b x : Nat) (ok : Bool) : Loc (aboveP b x ok) := loc_ite _ (loc_bind (loc_take x) fun n => loc_pure _) (loc_fail 2)
theorem loc_lenP (y : Int) : Loc (lenP y) := loc_ite _ (loc_aboveP _ _ _) (loc_aboveP _ _ _)
theorem loc_distP (y : Int) : Loc (distP y) := loc_ite _ (loc_aboveP _ _ _) (loc_aboveP _ _ _)
theorem loc_matchP (R : Nat → List Nat) (y : Int) : Loc (matchP R y) := loc_bind (loc_lenP y) fun n => loc_bind (loc_rdP R) fun z => loc_bind (loc_distP z) fun d => loc_pure _
theorem loc_symsP (most : Nat) (RL RD : Nat → List Nat) (s : Unp) : Loc (symsP most RL RD s) := loc_loop (fun s => loc_bind (loc_rdP RL) fun y => loc_ite _ (loc_pure _) (loc_ite _ (loc_bind (loc_matchP RD y) fun t => loc_bind (loc_addP most t s) fun s' => loc_pure _) (loc_bind (loc_addP most _ s) fun s' => loc_pure _))) _ _
theorem loc_addsP (most : Nat) : ∀ xs s, Loc (addsP most xs s)
  | [], s => loc_pure s
  | x :: xs, s => loc_bind (loc_addP most _ s) (loc_addsP most xs)
theorem loc_storedP (most : Nat) (s : Unp) : Loc (storedP most s) := loc_bind loc_align fun _ => loc_bind (loc_numbers _) fun ns => loc_ite _ (loc_ite _ (loc_bind (loc_numbers _) fun xs => loc_addsP most xs s) (loc_fail 4)) (loc_fail 2)
theorem loc_runP (y : Int) (ls : List Int) : Loc (runP y ls) := loc_ite _ (loc_ite _ (loc_fail 2) (loc_bind (loc_aboveP _ _ _) fun _ => loc_pure _)) (loc_ite _ (loc_bind (loc_aboveP _ _ _) fun _ => loc_pure _) (loc_ite _ (loc_bind (loc_aboveP _ _ _) fun _ => loc_pure _) (loc_pure _)))
theorem loc_growP (R : Nat → List Nat) (size n : Nat) (ls : List Int) : Loc (growP R size n ls) := loc_loop (fun s => loc_ite _ (loc_pure _) (loc_bind (loc_rdP R) fun y => loc_bind (loc_runP y s) fun x => loc_ite _ (loc_fail 2) (loc_pure _))) _ _
theorem loc_sizesP : Loc sizesP := loc_bind (loc_take 5) fun n => loc_ite _ (loc_fail 2) (loc_bind (loc_take 5) fun m => loc_ite _ (loc_fail 2) (loc_pure _))
theorem loc_seqP : Loc seqP := loc_bind (loc_take 4) fun n => loc_bind (loc_numbers _) fun own => loc_ite _ (loc_pure _) (loc_fail 2)
theorem loc_booksP : Loc booksP := loc_bind loc_sizesP fun ad => loc_bind loc_seqP fun cl => loc_bind (loc_growP _ _ _ _) fun ls => loc_ite _ (loc_bind (loc_growP _ _ _ _) fun ls2 => loc_ite _ (loc_pure _) (loc_fail 2)) (loc_fail 2)
theorem loc_dynP (most : Nat) (s : Unp) : Loc (dynP most s) := loc_bind loc_booksP fun b => loc_symsP most _ _ s
theorem loc_blockP {dyn : Unp → Pr Unp} (hd : ∀ s, Loc (dyn s)) (most : Nat) (s : Unp) (k : Nat) : Loc (blockP dyn most s k) := loc_ite _ (loc_storedP most s) (loc_ite _ (loc_symsP most _ _ s) (loc_ite _ (hd s) (loc_fail 2)))
theorem loc_unpP {dyn : Unp → Pr Unp} (hd : ∀ s, Loc (dyn s)) (most : Nat) : Loc (unpP dyn most) := loc_loop (fun s => loc_bind (loc_numbers _) fun ns => loc_bind (loc_blockP hd most s _) fun s' => loc_pure _) _ _
end Ip
end Go.Proofs.YtfgpmccmalddjaaDoor
end

section
namespace Go.Proofs.YtfgpmccmalddjaaDoor
open Go.RowKit

namespace Tk
theorem upto_app (most : Nat) (ts us : List Tok) : ∀ k, k ≤ ts.length → upto most (ts ++ us) k = upto most ts k
  | 0, _ => rfl
  | k + 1, h => by
    rw [upto, upto, upto_app most ts us k (by omega)]
    have e : (ts ++ us).getD k (0, 0) = ts.getD k (0, 0) := by
      simp only [List.getD]
      rw [List.getElem?_append_left (by omega)]
    rw [e]
theorem upto_snoc {most : Nat} {ts : List Tok} {l : List UInt8} {t : Tok} (h : upto most ts ts.length = (0, l)) (ht : isTok t = true) : upto most (ts ++ [t]) (ts ++ [t]).length = add most l t := by
  rw [List.length_append]
  show upto most (ts ++ [t]) (ts.length + 1) = _
  have h0 : upto most (ts ++ [t]) ts.length = (0, l) := by rw [upto_app most ts [t] _ (Nat.le_refl _)]; exact h
  rw [upto_next h0]
  have e : (ts ++ [t]).getD ts.length (0, 0) = t := by simp [List.getD]
  rw [e, stp, if_pos ht]
theorem add_put {most : Nat} {l : List UInt8} {t : Tok} (h : (add most l t).1 = 0) : add most l t = (0, put l t) := by
  unfold add at *
  split at h
  · simp at h
  · rename_i h1
    rw [if_neg h1]
    split at h
    · simp at h
    · rename_i h2
      rw [if_neg h2]
theorem add_less {most m : Nat} {l : List UInt8} {t : Tok} (h : (add most l t).1 = 0) (hm : (put l t).length ≤ m) : (add m l t).1 = 0 := by
  unfold add at *
  split at h
  · simp at h
  · rename_i h1
    rw [if_neg h1]
    rw [put_length] at hm
    rw [if_neg (by omega)]
theorem lit_tok {y : Int} (h : 0 ≤ y ∧ y < 256) : isTok (0, y) = true := by
  unfold isTok
  rw [if_pos rfl]
  exact decide_eq_true ⟨h.1, by show y ≤ 255; omega⟩
end Tk
namespace Ip
/-- The tokens so far come to the bytes so far. -/
def Val (most : Nat) (s : Unp) : Prop := Tk.upto most s.2 s.2.length = (0, s.1)
/-- A reader that keeps it, and whose output only grows. -/
def Keeps (most : Nat) (f : Unp → Pr Unp) : Prop := ∀ s u p s' q, f s u p = .ok s' q → (Val most s → Val most s') ∧ s.1.length ≤ s'.1.length
theorem keeps_addP (most : Nat) (t : Tok) (ht : Tk.isTok t = true) : Keeps most (addP most t) := fun s u p s' q h => by
  unfold addP at h
  split at h
  · rename_i h0
    cases h
    refine ⟨fun hv => ?_, by show s.1.length ≤ (Tk.put s.1 t).length; rw [Tk.put_length]; omega⟩
    show Tk.upto most (s.2 ++ [t]) (s.2 ++ [t]).length = (0, Tk.put s.1 t)
    rw [Tk.upto_snoc hv ht, Tk.add_put h0]
  · cases h
theorem bind_inv {α β : Type} {f : Pr α} {g : α → Pr β} {u : List Bool} {p q : Nat} {b : β} (h : bind f g u p = .ok b q) : ∃ a r, f u p = .ok a r ∧ g a u r = .ok b q := by
  cases hx : f u p with
  | err n => rw [bind_err hx] at h; cases h
  | ok a r => rw [bind_ok hx] at h; exact ⟨a, r, rfl, h⟩
theorem pure_inv {α : Type} {a b : α} {u : List Bool} {p q : Nat} (h : pure a u p = .ok b q) : a = b ∧ p = q := by cases h; exact ⟨rfl, rfl⟩
/-- One round of a block's symbols. -/
theorem symStep_inv {most : Nat} {RL RD : Nat → List Nat} (hS : ∀ c ∈ Bk.ks RL, 0 ≤ c.1 ∧ c.1 ≤ 1000000) {s : Unp} {u : List Bool} {p q : Nat} {x : Unp ⊕ Unp} (h : symStep most RL RD s u p = .ok x q) :
    ∃ y r, rdP RL u p = .ok y r ∧ ((y = 256 ∧ x = .inr s ∧ q = r) ∨ (256 < y ∧ ∃ t r2 s', matchP RD y u r = .ok t r2 ∧ addP most t s u r2 = .ok s' q ∧ x = .inl s' ∧ Tk.isTok t = true) ∨ (y ≠ 256 ∧ ¬ 256 < y ∧ ∃ s', addP most (0, y) s u r = .ok s' q ∧ x = .inl s' ∧ Tk.isTok (0, y) = true)) := by
  obtain ⟨y, r, h1, h2⟩ := bind_inv h
  refine ⟨y, r, h1, ?_⟩
  have hy := rdP_sym hS h1
  unfold symK at h2
  split at h2
  · rename_i e
    obtain ⟨rfl, rfl⟩ := pure_inv (u := u) h2
    exact .inl ⟨e, rfl, rfl⟩
  · rename_i e
    split at h2
    · rename_i e2
      obtain ⟨t, r2, h3, h4⟩ := bind_inv h2
      obtain ⟨s', r3, h5, h6⟩ := bind_inv h4
      obtain ⟨rfl, rfl⟩ := pure_inv h6
      exact .inr (.inl ⟨e2, t, r2, s', h3, h5, rfl, matchP_tok h3⟩)
    · rename_i e2
      obtain ⟨s', r3, h5, h6⟩ := bind_inv h2
      obtain ⟨rfl, rfl⟩ := pure_inv h6
      exact .inr (.inr ⟨e, e2, s', h5, rfl, Tk.lit_tok ⟨hy.1, by omega⟩⟩)
theorem keeps_syms {most : Nat} {RL RD : Nat → List Nat} (hS : ∀ c ∈ Bk.ks RL, 0 ≤ c.1 ∧ c.1 ≤ 1000000) : ∀ f, Keeps most (fun s => loop (symStep most RL RD) f s)
  | 0 => fun s u p s' q h => by cases h
  | f + 1 => fun s u p s' q h => by
    obtain ⟨x, r, h1, h2⟩ := bind_inv (show bind (symStep most RL RD s) (next (loop (symStep most RL RD) f)) u p = .ok s' q from h)
    obtain ⟨y, r1, hy, h3⟩ := symStep_inv hS h1
    have go : ∀ s2 t, Tk.isTok t = true → ∀ r2, addP most t s u r2 = .ok s2 r → x = .inl s2 → (Val most s → Val most s') ∧ s.1.length ≤ s'.1.length := fun s2 t ht r2 ha hx => by
      subst hx
      have k1 := keeps_addP most t ht s u r2 s2 r ha
      have k2 := keeps_syms hS f s2 u r s' q h2
      exact ⟨fun hv => k2.1 (k1.1 hv), Nat.le_trans k1.2 k2.2⟩
    rcases h3 with ⟨_, rfl, rfl⟩ | ⟨_, t, r2, s2, _, ha, hx, ht⟩ | ⟨_, _, s2, ha, hx, ht⟩
    · obtain ⟨rfl, rfl⟩ := pure_inv (u := u) h2
      exact ⟨id, Nat.le_refl _⟩
    · exact go s2 t ht r2 ha hx
    · exact go s2 _ ht r1 ha hx
theorem keeps_adds {most : Nat} : ∀ (xs : List Nat), (∀ x ∈ xs, x < 256) → Keeps most (addsP most xs)
  | [], _ => fun s u p s' q h => by obtain ⟨rfl, rfl⟩ := pure_inv h; exact ⟨id, Nat.le_refl _⟩
  | x :: xs, hx => fun s u p s' q h => by
    obtain ⟨s2, r, h1, h2⟩ := bind_inv (show bind (addP most (0, ((x : Nat) : Int)) s) (addsP most xs) u p = .ok s' q from h)
    have hb := hx x List.mem_cons_self
    have k1 := keeps_addP most (0, ((x : Nat) : Int)) (Tk.lit_tok ⟨by omega, by omega⟩) s u p s2 r h1
    have k2 := keeps_adds xs (fun y hy => hx y (List.mem_cons_of_mem _ hy)) s2 u r s' q h2
    exact ⟨fun hv => k2.1 (k1.1 hv), Nat.le_trans k1.2 k2.2⟩
/-- What a block of kind 0 that is read takes. -/
theorem stored_inv {most : Nat} {s s' : Unp} {u : List Bool} {p q : Nat} (h : storedP most s u p = .ok s' q) :
    ∃ ns r xs r2, numbers [16, 16] u ((p + 7) / 8 * 8) = .ok ns r ∧ bits .xor .i64 ((ns.getD 0 0 : Nat) : Int) ((ns.getD 1 0 : Nat) : Int) = 65535 ∧ ns.getD 0 0 ≤ most - s.1.length ∧ numbers (List.replicate (ns.getD 0 0) 8) u r = .ok xs r2 ∧ addsP most xs s u r2 = .ok s' q ∧ ∀ x ∈ xs, x < 256 := by
  obtain ⟨_, r0, h0, h1⟩ := bind_inv h
  cases h0
  obtain ⟨ns, r, h2, h3⟩ := bind_inv h1
  unfold storedK at h3
  split at h3
  · rename_i hx
    split at h3
    · rename_i hf
      obtain ⟨xs, r2, h4, h5⟩ := bind_inv h3
      exact ⟨ns, r, xs, r2, h2, hx, hf, h4, h5, numbers_lt 8 _ _ _ _ _ (fun c hc => by rw [List.eq_of_mem_replicate hc]; omega) h4⟩
    · cases h3
  · cases h3
theorem keeps_stored (most : Nat) : Keeps most (storedP most) := fun s u p s' q h => by
  obtain ⟨ns, r, xs, r2, _, _, _, _, h5, hx⟩ := stored_inv h
  exact keeps_adds xs hx s u r2 s' q h5
/-- The books of a block of kind 2 are small. -/
theorem books_small {u : List Bool} {p q : Nat} {x : List Int × List Int} (h : booksP u p = .ok x q) : Cn.freeB x.1 = true ∧ Cn.freeB x.2 = true := by
  obtain ⟨ad, r1, _, h1⟩ := bind_inv h
  obtain ⟨cl, r2, _, h2⟩ := bind_inv h1
  obtain ⟨ls, r3, _, h3⟩ := bind_inv h2
  split at h3
  · rename_i hl
    obtain ⟨ls2, r4, _, h4⟩ := bind_inv h3
    split at h4
    · rename_i hd
      obtain ⟨rfl, rfl⟩ := pure_inv h4
      unfold litOk whole at hl
      unfold distOk at hd
      simp only [Bool.and_eq_true] at hl hd
      exact ⟨hl.1.1, hd.1⟩
    · cases h4
  · cases h3
theorem free_len {l : List Int} (h : Cn.freeB l = true) : l.length ≤ 512 := by
  unfold Cn.freeB Cn.formB at h
  simp only [Bool.and_eq_true, decide_eq_true_eq] at h
  exact h.1.1
theorem ks_free {l : List Int} (h : Cn.freeB l = true) : ∀ c ∈ Bk.ks (Bk.rowsL l), 0 ≤ c.1 ∧ c.1 ≤ 1000000 := by
  intro c hc
  unfold Bk.ks at hc
  obtain ⟨x, hx, rfl⟩ := List.mem_map.1 hc
  have := (Bk.seq_len l x hx).1
  have := free_len h
  dsimp only
  omega
theorem keeps_dyn (most : Nat) : Keeps most (dynP most) := fun s u p s' q h => by
  obtain ⟨b, r, h1, h2⟩ := bind_inv h
  exact keeps_syms (ks_free (books_small h1).1) big s u r s' q h2
theorem keeps_block (most : Nat) (k : Nat) : Keeps most (fun s => blockP (dynP most) most s k) := fun s u p s' q h => by
  unfold blockP at h
  split at h
  · exact keeps_stored most s u p s' q h
  · split at h
    · exact keeps_syms ks_fixL big s u p s' q h
    · split at h
      · exact keeps_dyn most s u p s' q h
      · cases h
theorem keeps_unp (most : Nat) : ∀ f, Keeps most (fun s => loop (unpStep (dynP most) most) f s)
  | 0 => fun s u p s' q h => by cases h
  | f + 1 => fun s u p s' q h => by
    obtain ⟨x, r, h1, h2⟩ := bind_inv (show bind (unpStep (dynP most) most s) (next (loop (unpStep (dynP most) most) f)) u p = .ok s' q from h)
    obtain ⟨ns, r1, _, h3⟩ := bind_inv h1
    obtain ⟨s2, r2, h4, h5⟩ := bind_inv h3
    have k1 := keeps_block most _ s u r1 s2 r2 h4
    obtain ⟨hx, rfl⟩ := pure_inv h5
    split at hx
    · subst hx
      obtain ⟨rfl, rfl⟩ := pure_inv (u := u) h2
      exact k1
    · subst hx
      have k2 := keeps_unp most f s2 u r2 s' q h2
      exact ⟨fun hv => k2.1 (k1.1 hv), Nat.le_trans k1.2 k2.2⟩
theorem val_unp {most : Nat} {u : List Bool} {s : Unp} {q : Nat} (h : unpP (dynP most) most u 0 = .ok s q) : Val most s := (keeps_unp most big ([], []) u 0 s q h).1 rfl
/-- It comes out the same with fewer bytes at most, if they are enough. -/
def Down (most m : Nat) (f g : Unp → Pr Unp) : Prop := ∀ s u p s' q, f s u p = .ok s' q → s'.1.length ≤ m → g s u p = .ok s' q
theorem down_addP (most m : Nat) (t : Tok) : Down most m (addP most t) (addP m t) := fun s u p s' q h hl => by
  unfold addP at h ⊢
  split at h
  · rename_i h0
    cases h
    rw [if_pos (Tk.add_less h0 hl)]
  · cases h
theorem down_syms {most m : Nat} {RL RD : Nat → List Nat} (hS : ∀ c ∈ Bk.ks RL, 0 ≤ c.1 ∧ c.1 ≤ 1000000) : ∀ f, Down most m (fun s => loop (symStep most RL RD) f s) (fun s => loop (symStep m RL RD) f s)
  | 0 => fun s u p s' q h _ => by cases h
  | f + 1 => fun s u p s' q h hl => by
    obtain ⟨x, r, h1, h2⟩ := bind_inv (show bind (symStep most RL RD s) (next (loop (symStep most RL RD) f)) u p = .ok s' q from h)
    obtain ⟨y, r1, hy, h3⟩ := symStep_inv hS h1
    show bind (symStep m RL RD s) (next (loop (symStep m RL RD) f)) u p = .ok s' q
    have e0 : symStep m RL RD s u p = symK m RD s y u r1 := bind_ok hy
    have key : symStep m RL RD s u p = .ok x r := by
      rw [e0]
      unfold symK
      rcases h3 with ⟨rfl, rfl, rfl⟩ | ⟨e, t, r2, s2, hm, ha, rfl, ht⟩ | ⟨e1, e, s2, ha, rfl, ht⟩
      · rw [if_pos rfl]; rfl
      · rw [if_neg (by omega), if_pos e, bind_ok hm, bind_ok (down_addP most m t s u r2 s2 r ha (Nat.le_trans (keeps_syms hS f s2 u r s' q h2).2 hl))]; rfl
      · rw [if_neg e1, if_neg e, bind_ok (down_addP most m _ s u r1 s2 r ha (Nat.le_trans (keeps_syms hS f s2 u r s' q h2).2 hl))]; rfl
    rw [bind_ok key]
    cases x with
    | inl s2 => exact down_syms hS f s2 u r s' q h2 hl
    | inr s2 => exact h2
theorem down_adds {most m : Nat} : ∀ (xs : List Nat), (∀ x ∈ xs, x < 256) → Down most m (addsP most xs) (addsP m xs)
  | [], _ => fun s u p s' q h _ => h
  | x :: xs, hx => fun s u p s' q h hl => by
    obtain ⟨s2, r, h1, h2⟩ := bind_inv (show bind (addP most (0, ((x : Nat) : Int)) s) (addsP most xs) u p = .ok s' q from h)
    have hx2 := fun y hy => hx y (List.mem_cons_of_mem _ hy)
    show bind (addP m (0, ((x : Nat) : Int)) s) (addsP m xs) u p = .ok s' q
    rw [bind_ok (down_addP most m _ s u p s2 r h1 (Nat.le_trans (keeps_adds xs hx2 s2 u r s' q h2).2 hl))]
    exact down_adds xs hx2 s2 u r s' q h2 hl
theorem adds_length {most : Nat} : ∀ (xs : List Nat) (s : Unp) (u : List Bool) (p : Nat) (s' : Unp) (q : Nat), addsP most xs s u p = .ok s' q → s'.1.length = s.1.length + xs.length
  | [], s, u, p, s', q, h => by obtain ⟨rfl, rfl⟩ := pure_inv h; rfl
  | x :: xs, s, u, p, s', q, h => by
    obtain ⟨s2, r, h1, h2⟩ := bind_inv (show bind (addP most (0, ((x : Nat) : Int)) s) (addsP most xs) u p = .ok s' q from h)
    rw [adds_length xs s2 u r s' q h2]
    unfold addP at h1
    split at h1
    · cases h1
      rw [Tk.put_length]
      show s.1.length + 1 + xs.length = s.1.length + (xs.length + 1)
      omega
    · cases h1
theorem down_stored (most m : Nat) : Down most m (storedP most) (storedP m) := fun s u p s' q h hl => by
  obtain ⟨ns, r, xs, r2, h1, h2, h3, h4, h5, hx⟩ := stored_inv h
  have h6 := adds_length xs s u r2 s' q h5
  have h7 := numbers_length _ _ _ _ _ h4
  rw [List.length_replicate] at h7
  show bind align (fun _ => bind (numbers [16, 16]) fun ns => storedK m s (ns.getD 0 0) (ns.getD 1 0)) u p = .ok s' q
  rw [bind_ok (show align u p = .ok () ((p + 7) / 8 * 8) from rfl), bind_ok h1]
  unfold storedK
  rw [if_pos h2, if_pos (by omega), bind_ok h4]
  exact down_adds xs hx s u r2 s' q h5 hl
theorem down_dyn (most m : Nat) : Down most m (dynP most) (dynP m) := fun s u p s' q h hl => by
  obtain ⟨b, r, h1, h2⟩ := bind_inv h
  show bind booksP (fun b => symsP m (Bk.rowsL b.1) (Bk.rowsL b.2) s) u p = .ok s' q
  rw [bind_ok h1]
  exact down_syms (ks_free (books_small h1).1) big s u r s' q h2 hl
theorem down_block (most m : Nat) (k : Nat) : Down most m (fun s => blockP (dynP most) most s k) (fun s => blockP (dynP m) m s k) := fun s u p s' q h hl => by
  show blockP (dynP m) m s k u p = .ok s' q
  have h : blockP (dynP most) most s k u p = .ok s' q := h
  unfold blockP at h ⊢
  split at h
  · rename_i e; rw [if_pos e]; exact down_stored most m s u p s' q h hl
  · rename_i e
    rw [if_neg e]
    split at h
    · rename_i e2; rw [if_pos e2]; exact down_syms ks_fixL big s u p s' q h hl
    · rename_i e2
      rw [if_neg e2]
      split at h
      · rename_i e3; rw [if_pos e3]; exact down_dyn most m s u p s' q h hl
      · cases h
theorem down_unp (most m : Nat) : ∀ f, Down most m (fun s => loop (unpStep (dynP most) most) f s) (fun s => loop (unpStep (dynP m) m) f s)
  | 0 => fun s u p s' q h _ => by cases h
  | f + 1 => fun s u p s' q h hl => by
    obtain ⟨x, r, h1, h2⟩ := bind_inv (show bind (unpStep (dynP most) most s) (next (loop (unpStep (dynP most) most) f)) u p = .ok s' q from h)
    obtain ⟨ns, r1, hn, h3⟩ := bind_inv h1
    obtain ⟨s2, r2, h4, h5⟩ := bind_inv h3
    obtain ⟨hx, rfl⟩ := pure_inv h5
    have hs2 : s2.1.length ≤ s'.1.length := by
      split at hx
      · subst hx; obtain ⟨rfl, rfl⟩ := pure_inv (u := u) h2; exact Nat.le_refl _
      · subst hx; exact (keeps_unp most f s2 u r2 s' q h2).2
    show bind (unpStep (dynP m) m s) (next (loop (unpStep (dynP m) m) f)) u p = .ok s' q
    have key : unpStep (dynP m) m s u p = .ok x r2 := by
      show bind (numbers [1, 2]) (fun ns => bind (blockP (dynP m) m s (ns.getD 1 0)) fun s' => pure (if ns.getD 0 0 = 1 then Sum.inr s' else Sum.inl s')) u p = _
      rw [bind_ok hn, bind_ok (down_block most m _ s u r1 s2 r2 h4 (Nat.le_trans hs2 hl)), ← hx]; rfl
    rw [bind_ok key]
    cases x with
    | inl s3 => exact down_unp most m f s3 u r2 s' q h2 hl
    | inr s3 =>
      obtain ⟨rfl, rfl⟩ := pure_inv (u := u) h2
      rfl
theorem down_unpP {most : Nat} {u : List Bool} {s : Unp} {q : Nat} (h : unpP (dynP most) most u 0 = .ok s q) : unpP (dynP s.1.length) s.1.length u 0 = .ok s q := by
  unfold unpP at h ⊢
  generalize big = f at h ⊢
  exact down_unp most s.1.length f ([], []) u 0 s q h (Nat.le_refl _)
end Ip
end Go.Proofs.YtfgpmccmalddjaaDoor
end

section
namespace Go.Proofs.YtfgpmccmalddjaaDoor
open Go.RowKit

theorem isMost_any (m : Int) (w : World) : Calls Tryd.prog 74 #[.int .i64 m] w fun e w' => e = .returned (.bool (decide (0 ≤ m ∧ m ≤ 4194304))) ∧ w = w' := by
  go_enter Tryd.func74, Tryd.ntmps74
  by_cases h1 : 0 ≤ m
  · have d1 : decide (0 ≤ m) = true := by simpa using h1
    by_cases h2 : m ≤ 4194304
    · have d2 : decide (m ≤ 4194304) = true := by simpa using h2
      have E := Lib.hid (show decide (0 ≤ m ∧ m ≤ 4194304) = true from decide_eq_true ⟨h1, h2⟩)
      go_wp2
      go_ret
      exact ⟨by first | rfl | (rw [E.out]; rfl), rfl⟩
    · have d2 : decide (m ≤ 4194304) = false := by simpa using h2
      have E := Lib.hid (show decide (0 ≤ m ∧ m ≤ 4194304) = false from decide_eq_false (fun h => h2 h.2))
      go_wp2
      go_ret
      exact ⟨by first | rfl | (rw [E.out]; rfl), rfl⟩
  · have d1 : decide (0 ≤ m) = false := by simpa using h1
    have E := Lib.hid (show decide (0 ≤ m ∧ m ≤ 4194304) = false from decide_eq_false (fun h => h1 h.1))
    go_wp2
    go_ret
    exact ⟨by first | rfl | (rw [E.out]; rfl), rfl⟩
end Go.Proofs.YtfgpmccmalddjaaDoor
end
