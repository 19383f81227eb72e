/- inflate.unpack: its contract. (*Reader).At: its contract. inflate.Inflate: its contract. What a block of kind 0 comes to, as the law lays it. What law06's alive asks of Inflate, by the specification. What blocks of kind 0 come to, one behind another. A slice of bytes, cut off. The blocks of InflateStored, as its loop lays them. burnishnum.Num: its contract. -/
import Derived.Test.YtbohhdakbgnaeaaDoorZ15
import Derived.Deep.RegionHeld3
import Derived.Test.YtbohhdakbgnaeaaDoorProg
set_option linter.unusedSimpArgs false
set_option linter.unusedVariables false
section
namespace Go.Proofs.YtbohhdakbgnaeaaDoor
open Go.RowKit
attribute [local go_sem] Oper.semAt_some

/-- What unpack answers. -/
def UnpPost (w : World) (bs : List UInt8) (most : Nat) (ls : Bool) (r : Ip.Rs Unp) (e : Ending) (w' : World) : Prop :=
  match r with
  | .ok s q => ∃ gr gb D p5 p6, e = .returned (.tuple #[.pointer (some ⟨gr, 0, none⟩), .nilIface]) ∧ Ir w' D w.heap.size gr gb p5 p6 bs q most ls s ∧ Ch w w' (fun _ => False)
  | .err n => (n == 0) = false ∧ e = .returned (.tuple #[.pointer none, .iface 35 (.int .i64 n)]) ∧ Ch w w' (fun _ => False)
def unpCells (gb most : Nat) (ls : Bool) : Array Value := #[.pointer (some ⟨gb, 0, none⟩), .slice none 0 0, .int .i64 (most : Nat), .bool ls, .slice none 0 0, .pointer none, .pointer none]
/-- The new reader. -/
theorem irx_new {w w1 : World} {gb most : Nat} {v : Value} {bs : List UInt8} {ls : Bool} (h : Rd w1 w.heap.size gb false v bs 0) (hb : Below w.heap.size w w1) (hm : most ≤ 4194304) (hl : bs.length ≤ 1000000000) :
    Irx (w1.alloc (.cells (unpCells gb most ls) 64)) (fun k => k < w.heap.size) w.heap.size w1.heap.size gb v bs 0 (unpCells gb most ls) (.slice none 0 0) (.slice none 0 0) (.pointer none) (.pointer none) most ls ([], []) := by
  have hz := hb.size
  have hg := h.lt
  have hgg := h.hg
  have hb2 := below_alloc w1 (.cells (unpCells gb most ls) 64)
  refine ⟨⟨heap_alloc_last w1 _, rfl, rfl, rfl, rfl, ⟨rfl, .inl ⟨rfl, rfl⟩⟩, ?_, fun k hk => by simp [Value.ownBlock] at hk, fun k hk => by simp [Value.ownBlock] at hk, fun k hk => by simp [Value.ownBlock] at hk⟩, rfl, h.mono hb2, by omega, hm, by simp, by simp, hl, Nat.le_trans hz hb2.size, by omega, fun k hk => ⟨by have := (h.own.lt k hk).2; omega, by simp [Value.ownBlock], by simp [Value.ownBlock]⟩, ⟨by simp [Value.ownBlock], by simp [Value.ownBlock]⟩, rfl, rfl, fun k hk => ⟨by have := hb2.size; omega, by omega, by omega, by simp [Value.ownBlock], by simp [Value.ownBlock], fun e => by have := (h.own.lt k e).1; omega⟩⟩
  cases ls <;> exact ⟨rfl, .inl ⟨rfl, rfl⟩⟩
theorem nums12 {u : List Bool} {q r : Nat} {ns : List Nat} (h : Ip.numbers [1, 2] u q = .ok ns r) : r = q + 3 ∧ ∃ a b, ns = [a, b] ∧ a < 2 ∧ b < 4 := by
  change Ip.bind (Ip.take 1) (fun n => Ip.bind (Ip.numbers [2]) fun ns => Ip.pure (n :: ns)) u q = .ok ns r at h
  cases h1 : Ip.take 1 u q with
  | err n => rw [Ip.bind_err h1] at h; cases h
  | ok a q1 =>
    rw [Ip.bind_ok h1] at h
    have l1 := Ip.take_lt h1
    have e1 : q1 = q + 1 := by
      unfold Ip.take at h1
      split at h1
      · cases h1; rfl
      · cases h1
    change Ip.bind (Ip.bind (Ip.take 2) (fun n => Ip.bind (Ip.numbers []) fun ns => Ip.pure (n :: ns))) (fun ns => Ip.pure (a :: ns)) u q1 = .ok ns r at h
    cases h2 : Ip.take 2 u q1 with
    | err n => rw [Ip.bind2_err h2] at h; cases h
    | ok b q2 =>
      rw [Ip.bind2_ok h2] at h
      have l2 := Ip.take_lt h2
      have e2 : q2 = q1 + 2 := by
        unfold Ip.take at h2
        split at h2
        · cases h2; rfl
        · cases h2
      cases h
      exact ⟨by omega, a, b, rfl, by omega, by omega⟩
section
variable {w : World} {most : Nat} {bs : List UInt8} {ls : Bool}
set_option maxRecDepth 100000 in
set_option maxHeartbeats 4000000 in
theorem unpack_any (dyn : Unp → Ip.Pr Unp) (hmn : ∀ s, Ip.Mono (dyn s)) (a : Option Addr) (len cap : Nat) (H : Bs w a len cap bs) (hl : bs.length ≤ 1000000000) (hm : most ≤ 4194304)
    (hd : ((∀ s u p, dyn s u p = .err 99) ∧ Ip.unpP dyn most (lob bs) 0 ≠ .err 99) ∨ (∀ w D B gr gb p5 p6 p s, Ir w D B gr gb p5 p6 bs p most ls s → Fx w D p5 p6 → Calls Tryd.prog 50 #[.pointer (some ⟨gr, 0, none⟩), .int .i64 2] w (BlPost w D B gr gb bs most ls (Ip.blockP dyn most s 2 (lob bs) p)))) :
    Calls Tryd.prog 24 #[.slice a len cap, .int .i64 (most : Nat), .bool ls] w (UnpPost w bs most ls (Ip.unpP dyn most (lob bs) 0)) := by
  have HD := Lib.hid hd
  have HMN := Lib.hid hmn
  have HLL := Lib.hid hl
  have hlen : len ≤ 140737488355328 := by have := H.hlen; omega
  have HNR := Lib.hid (newReader_any false a len cap bs w H hlen)
  have d1 : decide (((most : Nat) : Int) ≤ 4194304) = true := by simp; omega
  clear hd hmn hl H
  go_enter Tryd.func24, Tryd.ntmps24
  go_wp2_with fail
  have HMO : Hid (Calls Tryd.prog 26 #[.int .i64 (most : Nat)] w (fun e w' => e = .returned (.bool true) ∧ w = w')) := Lib.hid (by
    go_enter Tryd.func26, Tryd.ntmps26
    go_wp2
    go_ret
    exact ⟨rfl, rfl⟩)
  refine HMO.out.mono ?_
  rintro e w' ⟨rfl, rfl⟩
  go_wp2_with fail
  refine HNR.out.mono ?_
  rintro e w1 ⟨gb, v, rfl, hrd, hb1⟩
  have HIX := Lib.hid (irx_new (ls := ls) hrd hb1 hm HLL.out)
  have HBB := Lib.hid (below_then hb1 (below_alloc w1 (.cells (unpCells gb most ls) 64)))
  clear hrd hb1 HNR HMO
  go_wp2
  unfold unpCells at HIX HBB
  revert HIX HBB
  generalize World.alloc _ _ = w2
  intro HIX HBB
  have hgr : w1.heap.size < w2.heap.size := HIX.out.ou.lt
  generalize w1.heap.size = gr at *
  have HS : Hid (Ir w2 (fun k => k < w.heap.size) w.heap.size gr gb (.pointer none) (.pointer none) bs 0 most ls ([], []) ∧ Fx w2 (fun k => k < w.heap.size) (.pointer none) (.pointer none) ∧ (∀ k, k < w.heap.size → k < w.heap.size) ∧ Ch w w2 (fun _ => False) ∧ 8 * bs.length - 0 < Ip.big ∧ Ip.unpP dyn most (lob bs) 0 = Ip.loop (Ip.unpStep dyn most) Ip.big ([], []) (lob bs) 0) := Lib.hid ⟨⟨v, _, _, _, HIX.out⟩, .inl ⟨rfl, rfl⟩, fun _ h => h, Ch.of_below HBB.out, by have := HLL.out; unfold Ip.big; omega, rfl⟩
  have HSZ := Lib.hid HBB.out.size
  clear HIX HBB hgr
  go_loopg [] (8 * bs.length) (fun gk wr => ∃ q s D p5 p6 f, gk = 8 * bs.length - q ∧ Hid (Ir wr D w.heap.size gr gb p5 p6 bs q most ls s ∧ Fx wr D p5 p6 ∧ (∀ k, k < w.heap.size → D k) ∧ Ch w wr (fun _ => False) ∧ 8 * bs.length - q < f ∧ Ip.unpP dyn most (lob bs) 0 = Ip.loop (Ip.unpStep dyn most) f s (lob bs) q))
  case atStart => exact ⟨0, _, _, _, _, _, by omega, HS⟩
  case round =>
    obtain ⟨q, s2, D, p5, p6, f, rfl, HK⟩ := hrel
    obtain ⟨hir, hfx, hDD, hch, hf, hsp⟩ := HK.out
    obtain ⟨f, rfl⟩ : ∃ f', f = f' + 1 := ⟨f - 1, by omega⟩
    have hb1 := below_alloc wr (.cells #[.int .i64 1, .int .i64 2] 3)
    have hm1 := hir.mono hb1
    have HN := Lib.hid (irNums hm1 (a := some ⟨wr.heap.size, 0, none⟩) (len := 2) (cap := 2) (cnts := [1, 2]) (is_alloc wr [1, 2] (by intro n hn; simp at hn; rcases hn with rfl | rfl <;> decide +kernel) (by simp)) (by
      intro ad e; cases e
      obtain ⟨vb, cs, v, vl, k⟩ := hir
      have := k.rd.lt
      intro hh; simp only at hh; omega) (by omega) (by intro c hc; simp at hc; omega))
    have HFX : Hid (Fx (wr.alloc (.cells #[.int .i64 1, .int .i64 2] 3)) D p5 p6) := Lib.hid (hfx.kept (Ch.of_below hb1))
    have HCH : Hid (Ch w (wr.alloc (.cells #[.int .i64 1, .int .i64 2] 3)) (fun _ => False)) := Lib.hid (hch.trans (Ch.of_below (T := fun _ => False) hb1) (fun n hn => hn.elim))
    have HDD := Lib.hid hDD
    have HSP : Hid (Ip.unpP dyn most (lob bs) 0 = Ip.bind (Ip.unpStep dyn most s2) (Ip.next (Ip.loop (Ip.unpStep dyn most) f)) (lob bs) q) := Lib.hid (by rw [hsp]; rfl)
    clear hir hfx hDD hch hsp HK hb1 hm1
    go_wp2_with fail
    revert HN HFX HCH
    generalize World.alloc _ _ = w3
    intro HN HFX HCH
    refine HN.out.mono ?_
    cases h1 : Ip.numbers [1, 2] (lob bs) q with
    | err n =>
      rintro e w4 ⟨hn, rfl, hch4⟩
      have HP : Hid (UnpPost w bs most ls (Ip.unpP dyn most (lob bs) 0) (.returned (.tuple #[.pointer none, .iface 35 (.int .i64 n)])) w4) := Lib.hid (by
        rw [HSP.out]; unfold Ip.unpStep; rw [Ip.bind2_err h1]
        exact ⟨hn, rfl, HCH.out.trans hch4 (fun n hn => by
          by_cases hx : n < w.heap.size
          · exact absurd (HDD.out n hx) hn
          · exact .inr (by omega))⟩)
      clear hch4 h1 hn
      go_wp2
      go_ret2
      exact HP.out
    | ok ns r =>
      rintro e w4 ⟨v4, rfl, hown, hir4, hch4⟩
      obtain ⟨rfl, k0, k1, rfl, hk0, hk1⟩ := nums12 h1
      have HS2 : Hid (Ip.unpP dyn most (lob bs) 0 = Ip.bind (Ip.bind (Ip.blockP dyn most s2 k1) fun s' => Ip.pure (if k0 = 1 then .inr s' else .inl s')) (Ip.next (Ip.loop (Ip.unpStep dyn most) f)) (lob bs) (q + 3)) := Lib.hid (by
        rw [HSP.out]; exact Ip.bind2_ok h1)
      obtain ⟨gn, cn, hv⟩ : ∃ gn cn, v4 = .slice (some ⟨gn, 0, none⟩) 2 cn := by
        rcases own_nil_or hown with ⟨_, h0⟩ | ⟨g, cap, h0, _⟩
        · simp at h0
        · exact ⟨g, cap, h0⟩
      subst hv
      have n0 : w4.cell? ⟨gn, 0, none⟩ = some (.int .i64 ((k0 : Nat) : Int)) := hown.cellAt 0 (by simp)
      have n1 : w4.cell? ⟨gn, 1, none⟩ = some (.int .i64 ((k1 : Nat) : Int)) := hown.cellAt 1 (by simp)
      obtain ⟨D4, hD4⟩ : ∃ D4 : Nat → Prop, D4 = fun k => D k ∨ (Value.slice (some ⟨gn, 0, none⟩) 2 cn).ownBlock = some k := ⟨_, rfl⟩
      rw [← hD4] at hir4
      have hDl : ∀ k, D k → D4 k := fun k hk => by rw [hD4]; exact .inl hk
      have hDn : D4 gn := by rw [hD4]; exact .inr rfl
      have hgn := (hown.lt gn rfl).2
      have hfx4 : Fx w4 D4 p5 p6 := by
        rcases HFX.out.kept hch4 with h | ⟨g5, g6, h5, h6, z5, z6⟩
        · exact .inl h
        · exact .inr ⟨g5, g6, h5, h6, z5.wide hDl, z6.wide hDl⟩
      have hcc : ∀ w', Ch w4 w' (fun k => ¬ D4 k) → Ch w w' (fun _ => False) := fun w' c => (HCH.out.trans hch4 (fun n hn => by
        by_cases hx : n < w.heap.size
        · exact absurd (HDD.out n hx) hn
        · exact .inr (by omega))).trans c (fun n hn => by
        by_cases hx : n < w.heap.size
        · exact absurd (hDl n (HDD.out n hx)) hn
        · exact .inr (by omega))
      have HCC := Lib.hid hcc
      have HBK : Hid (Calls Tryd.prog 50 #[.pointer (some ⟨gr, 0, none⟩), .int .i64 ((k1 : Nat) : Int)] w4 (BlPost w4 D4 w.heap.size gr gb bs most ls (Ip.blockP dyn most s2 k1 (lob bs) (q + 3)))) := Lib.hid (by
        match k1, hk1, HS2 with
        | 0, _, _ => exact block_0 dyn hir4 hfx4
        | 1, _, _ => exact block_1 dyn hir4 hfx4
        | 2, _, h2 =>
          rcases HD.out with ⟨hf99, hne⟩ | hb2
          · exact absurd (h2.out.trans (Ip.bind2_err (hf99 s2 (lob bs) (q + 3)))) hne
          · exact hb2 _ _ _ _ _ _ _ _ _ hir4 hfx4
        | 3, _, _ => exact block_3 dyn hir4)
      have hqp : q + 3 ≤ 8 * bs.length := hir4.place.1
      have HNX : Hid (∀ w', Ch w4 w' (fun k => ¬ D4 k) → w'.cell? ⟨gn, 0, none⟩ = some (.int .i64 ((k0 : Nat) : Int))) := Lib.hid (fun w' c => (c.own hown (fun k hk hn => hn (by rw [hD4]; exact .inr hk))).cellAt 0 (by simp))
      have HDD4 : Hid (∀ k, k < w.heap.size → D4 k) := Lib.hid (fun k hk => hDl k (HDD.out k hk))
      clear hown hir4 hch4 h1 HN HFX HCH HSP hfx4 hcc hD4 n0 HDD hDl hDn hgn hk1
      cases hy : Ip.blockP dyn most s2 k1 (lob bs) (q + 3) with
      | err n =>
        rw [hy] at HBK
        have HX : Hid (Ip.unpP dyn most (lob bs) 0 = .err n) := Lib.hid (by rw [HS2.out]; exact Ip.bind2_err hy)
        clear hy HS2
        go_wp2_with fail
        refine HBK.out.mono ?_
        rintro e w5 ⟨hn, rfl, hch5⟩
        have HP : Hid (UnpPost w bs most ls (Ip.unpP dyn most (lob bs) 0) (.returned (.tuple #[.pointer none, .iface 35 (.int .i64 n)])) w5) := Lib.hid (by
          rw [HX.out]; exact ⟨hn, rfl, HCC.out _ hch5⟩)
        clear hch5 hn
        go_wp2
        go_ret2
        exact HP.out
      | ok s3 t =>
        rw [hy] at HBK
        have hqt : q + 3 ≤ t := Ip.mono_blockP HMN.out most s2 k1 _ _ _ _ hy
        have HS3 : Hid (Ip.unpP dyn most (lob bs) 0 = Ip.bind (Ip.pure (if k0 = 1 then .inr s3 else .inl s3)) (Ip.next (Ip.loop (Ip.unpStep dyn most) f)) (lob bs) t) := Lib.hid (by rw [HS2.out]; exact Ip.bind2_ok hy)
        clear hy HS2
        go_wp2_with fail
        refine HBK.out.mono ?_
        rintro e w5 ⟨rfl, ⟨D5, r5, r6, h5a, h5b, hir5, hfx5⟩, hch5⟩
        have m0 := HNX.out _ hch5
        have htp := hir5.place.1
        rcases (show k0 = 0 ∨ k0 = 1 by omega) with rfl | rfl
        · have HX5 : Hid (Ir w5 D5 w.heap.size gr gb r5 r6 bs t most ls s3 ∧ Fx w5 D5 r5 r6 ∧ (∀ k, k < w.heap.size → D5 k) ∧ Ch w w5 (fun _ => False) ∧ 8 * bs.length - t < f ∧ Ip.unpP dyn most (lob bs) 0 = Ip.loop (Ip.unpStep dyn most) f s3 (lob bs) t) := Lib.hid ⟨hir5, hfx5, fun k hk => h5a k (HDD4.out k hk), HCC.out _ hch5, by omega, by rw [HS3.out]; rfl⟩
          clear hir5 hfx5 hch5 h5a h5b HNX HCC HDD4 HS3 HBK
          go_wp2
          go_roundg (8 * bs.length - t)
          case rel => exact ⟨t, s3, D5, r5, r6, f, rfl, HX5⟩
          case measure => omega
        · have HP : Hid (UnpPost w bs most ls (Ip.unpP dyn most (lob bs) 0) (.returned (.tuple #[.pointer (some ⟨gr, 0, none⟩), .nilIface])) w5) := Lib.hid (by
            have e : Ip.unpP dyn most (lob bs) 0 = .ok s3 t := by rw [HS3.out]; rfl
            rw [e]; exact ⟨gr, gb, D5, r5, r6, rfl, hir5, HCC.out _ hch5⟩)
          clear hir5 hfx5 hch5 h5a h5b HNX HCC HDD4 HS3 HBK
          go_wp2
          go_ret2
          exact HP.out
end
end Go.Proofs.YtbohhdakbgnaeaaDoor
end

section
namespace Go.Proofs.YtbohhdakbgnaeaaDoor
open Go.RowKit

theorem at_any (w : World) (B g : Nat) (h : Bool) (v : Value) (l : List UInt8) (p : Nat) (H : Rd w B g h v l p) :
    Calls Tryd.prog 25 #[.pointer (some ⟨g, 0, none⟩)] w fun e w' => e = .returned (.int .i64 (p : Nat)) ∧ w = w' := by
  have c2 := H.c2
  clear H
  go_enter Tryd.func25, Tryd.ntmps25
  go_wp2
  go_ret
  exact ⟨rfl, rfl⟩
end Go.Proofs.YtbohhdakbgnaeaaDoor
end

section
namespace Go.Proofs.YtbohhdakbgnaeaaDoor
open Go.RowKit
attribute [local go_sem] Oper.semAt_some

/-- What Inflate answers. -/
def InfPost (w : World) (r : Ip.Rs Unp) (e : Ending) (w' : World) : Prop :=
  match r with
  | .ok s q => ∃ v, e = .returned (.tuple #[v, .int .i64 (((q + 7) / 8 : Nat) : Int), .nilIface]) ∧ w'.ownsRow w.heap.size 5 1 v s.1.length (bvs s.1) ∧ Ch w w' (fun _ => False)
  | .err n => (n == 0) = false ∧ e = .returned (.tuple #[.slice none 0 0, .int .i64 0, .iface 35 (.int .i64 n)]) ∧ Ch w w' (fun _ => False)
section
variable {w : World} {most : Nat} {bs : List UInt8}
set_option maxRecDepth 100000 in
set_option maxHeartbeats 4000000 in
theorem inflate_any (r : Ip.Rs Unp) (a : Option Addr) (len cap : Nat) (HU : Calls Tryd.prog 24 #[.slice a len cap, .int .i64 (most : Nat), .bool false] w (UnpPost w bs most false r)) :
    Calls Tryd.prog 8 #[.slice a len cap, .int .i64 (most : Nat)] w (InfPost w r) := by
  have HH := Lib.hid HU
  clear HU
  go_enter Tryd.func8, Tryd.ntmps8
  go_wp2_with fail
  refine HH.out.mono ?_
  cases r with
  | err n =>
    rintro e w1 ⟨hn, rfl, hch⟩
    have HP : Hid (InfPost w (.err n) (.returned (.tuple #[.slice none 0 0, .int .i64 0, .iface 35 (.int .i64 n)])) w1) := Lib.hid ⟨hn, rfl, hch⟩
    clear hch hn HH
    go_wp2
    go_ret3
    exact HP.out
  | ok s q =>
    rintro e w1 ⟨gr, gb, D, p5, p6, rfl, hir, hch⟩
    obtain ⟨vb, cs, v, vl, k⟩ := hir
    have hq : q ≤ 8000000000 := by have := k.hp; have := k.hbl; omega
    have t1 : w1.cell? ⟨gr, 1, none⟩ = some v := k.ou.cells.1
    have t0 : w1.cell? ⟨gr, 0, none⟩ = some (.pointer (some ⟨gb, 0, none⟩)) := by rw [cell_of_row _ _ _ _ _ (0, 0) k.ou.row]; exact k.c0
    have HAT := Lib.hid (fun m => at_any (w1.drewN m) w.heap.size gb false vb bs q (k.rd.mono (dn_is w1 m)))
    have HAT1 := Lib.hid (at_any w1.drew w.heap.size gb false vb bs q (k.rd.mono (dn_is w1 1)))
    have hdv : IntKind.i64.wrap ((IntKind.i64.wrap (((q : Nat) : Int) + 7)).tdiv 8) = (((q + 7) / 8 : Nat) : Int) := by
      rw [IntWalk.i64_in (((q : Nat) : Int) + 7) ⟨by omega, by omega⟩, Int.tdiv_eq_ediv_of_nonneg (by omega), IntWalk.i64_in _ ⟨by omega, by omega⟩]; omega
    have HDV := Lib.hid hdv
    clear hdv
    obtain ⟨av, cv, rfl, _⟩ := own_bs k.ou.own (by have := k.hl; have := k.hm; omega)
    have HP : Hid (∀ m, InfPost w (.ok s q) (.returned (.tuple #[.slice av s.1.length cv, .int .i64 (((q + 7) / 8 : Nat) : Int), .nilIface])) (w1.drewN m)) := Lib.hid (fun m => ⟨_, rfl, own_below k.ou.own (dn_is w1 m), hch.trans (Ch.of_below (T := fun _ => False) (dn_is w1 m)) (fun n hn => hn.elim)⟩)
    clear k hch HH
    go_wp2_with fail
    go_region_held3 (fun w' => w'.cell? ⟨gr, 0, none⟩ = some (.pointer (some ⟨gb, 0, none⟩)) ∧ w'.cell? ⟨gr, 1, none⟩ = some (.slice av s.1.length cv)) (go_keep)
      (first | (go_at_call 25; refine HAT1.out.mono ?_; rintro e w' ⟨rfl, rfl⟩))
    go_wp2
    go_ret3
    have h9 := HP.out 1
    rw [← HDV.out] at h9
    exact h9
end
end Go.Proofs.YtbohhdakbgnaeaaDoor
end

section
namespace Go.Proofs.YtbohhdakbgnaeaaDoor
open Go.RowKit

theorem i64_xor_nat (a b : Nat) (ha : a < 9223372036854775808) (hb : b < 9223372036854775808) : bits .xor .i64 (a : Int) (b : Int) = ((a ^^^ b : Nat) : Int) := by
  have h : a ^^^ b < 2 ^ 63 := Nat.xor_lt_two_pow (by omega) (by omega)
  show IntKind.i64.wrap ((BitVec.ofInt 64 (a : Int) ^^^ BitVec.ofInt 64 (b : Int)).toNat : Int) = _
  rw [BitVec.toNat_xor, ofInt_64 a ha, ofInt_64 b hb, i64_wrap_small _ (by omega)]
theorem xor_full (a : Nat) (h : a < 65536) : a ^^^ (65535 - a) = 65535 := by
  apply Nat.eq_of_testBit_eq
  intro i
  rw [Nat.testBit_xor, show 65535 - a = 2 ^ 16 - (a + 1) by omega, Nat.testBit_two_pow_sub_succ (by omega), show (65535 : Nat) = 2 ^ 16 - 1 by rfl, Nat.testBit_two_pow_sub_one]
  by_cases hi : i < 16
  · simp [hi]
  · have : a.testBit i = false := Nat.testBit_lt_two_pow (Nat.lt_of_lt_of_le h (Nat.pow_le_pow_right (n := 2) (by omega) (by omega : 16 ≤ i)))
    simp [hi, this]
theorem lob_append (x y : List UInt8) : lob (x ++ y) = lob x ++ lob y := by unfold lob Bt.rbits; rw [List.flatMap_append]
theorem lob_cons (x : UInt8) (y : List UInt8) : lob (x :: y) = Bt.dg false x.toNat 8 ++ lob y := rfl
namespace Ip
theorem take_byte (pre : List UInt8) (x : UInt8) (post : List UInt8) : take 8 (lob (pre ++ x :: post)) (8 * pre.length) = .ok x.toNat (8 * pre.length + 8) := by
  unfold take
  rw [if_pos (by rw [lob_length, List.length_append, List.length_cons]; omega), lob_append, List.drop_left' (lob_length pre), lob_cons, List.take_left' (Bt.dg_length false x.toNat 8), Bt.num_dg false x.toNat 8 (u8_lt x)]
theorem nums_bytes : ∀ (xs pre post : List UInt8), numbers (List.replicate xs.length 8) (lob (pre ++ (xs ++ post))) (8 * pre.length) = .ok (xs.map UInt8.toNat) (8 * (pre.length + xs.length))
  | [], pre, post => rfl
  | x :: xs, pre, post => by
    show bind (take 8) (fun n => bind (numbers (List.replicate xs.length 8)) fun ns => pure (n :: ns)) _ _ = _
    rw [List.cons_append, bind_ok (take_byte pre x (xs ++ post))]
    have ih := nums_bytes xs (pre ++ [x]) post
    rw [List.length_append, List.length_singleton, List.append_assoc, List.singleton_append, show 8 * (pre.length + 1) = 8 * pre.length + 8 by omega] at ih
    rw [bind_ok ih]
    simp only [pure, List.map_cons, List.length_cons]
    congr 1; omega
theorem dg_two (n : Nat) : Bt.dg false n 16 = Bt.dg false (n % 256) 8 ++ Bt.dg false (n / 256) 8 := by
  have h1 : ∀ i, i < 8 → (n % 256).testBit i = n.testBit i := fun i hi => by
    rw [show (256 : Nat) = 2 ^ 8 by rfl, Nat.testBit_mod_two_pow]; simp [hi]
  have h2 : ∀ i, (n / 256).testBit i = n.testBit (8 + i) := fun i => by
    rw [show (256 : Nat) = 2 ^ 8 by rfl, Nat.testBit_div_two_pow, Nat.add_comm]
  unfold Bt.dg
  simp only [Bool.false_eq_true, if_false]
  rw [show (16 : Nat) = 8 + 8 by rfl, List.range_add, List.map_append, List.map_map]
  congr 1
  · exact List.map_congr_left (fun i hi => (h1 i (List.mem_range.1 hi)).symm)
  · exact List.map_congr_left (fun i _ => (h2 i).symm)
theorem take_two (pre : List UInt8) (x y : UInt8) (post : List UInt8) : take 16 (lob (pre ++ x :: y :: post)) (8 * pre.length) = .ok (x.toNat + 256 * y.toNat) (8 * pre.length + 16) := by
  have hx := u8_lt x
  have hy := u8_lt y
  have e : Bt.dg false x.toNat 8 ++ Bt.dg false y.toNat 8 = Bt.dg false (x.toNat + 256 * y.toNat) 16 := by
    rw [dg_two, show (x.toNat + 256 * y.toNat) % 256 = x.toNat by omega, show (x.toNat + 256 * y.toNat) / 256 = y.toNat by omega]
  unfold take
  rw [if_pos (by rw [lob_length, List.length_append, List.length_cons, List.length_cons]; omega), lob_append, List.drop_left' (lob_length pre), lob_cons, lob_cons, ← List.append_assoc, e, List.take_left' (Bt.dg_length false _ 16), Bt.num_dg false _ 16 (by omega)]
/-- Literals, as tokens. -/
def lits (xs : List UInt8) : List Tok := xs.map fun x => (0, ((x.toNat : Nat) : Int))
theorem adds_lits (most : Nat) (u : List Bool) (p : Nat) : ∀ (xs : List UInt8) (s : Unp), s.1.length + xs.length ≤ most → addsP most (xs.map UInt8.toNat) s u p = .ok (s.1 ++ xs, s.2 ++ lits xs) p
  | [], s, h => by simp [addsP, pure, lits]
  | x :: xs, s, h => by
    rw [List.length_cons] at h
    have ea : addP most (0, ((x.toNat : Nat) : Int)) s u p = .ok (s.1 ++ [x], s.2 ++ [(0, ((x.toNat : Nat) : Int))]) p := by
      have e1 : Tk.add most s.1 (0, ((x.toNat : Nat) : Int)) = (0, s.1 ++ [x]) := by
        unfold Tk.add Tk.size Tk.put
        simp
        omega
      have e2 : Tk.put s.1 (0, ((x.toNat : Nat) : Int)) = s.1 ++ [x] := by unfold Tk.put; simp
      unfold addP
      rw [e1, if_pos rfl, e2]
    show bind (addP most (0, ((x.toNat : Nat) : Int)) s) (addsP most (xs.map UInt8.toNat)) u p = _
    rw [bind_ok ea, adds_lits most u p xs _ (by rw [List.length_append]; simp; omega)]
    simp [lits]
/-- What stands in front of a block's bytes: its mark and kind, how many there are, and that number turned over. -/
def head (last : UInt8) (n : Nat) : List UInt8 := [last, UInt8.ofNat n, UInt8.ofNat (n / 256), UInt8.ofNat (255 - n % 256), UInt8.ofNat (255 - n / 256 % 256)]
theorem head_length (last : UInt8) (n : Nat) : (head last n).length = 5 := rfl
theorem stored_blk (most : Nat) (s : Unp) (hs : s.1.length ≤ most) (last : UInt8) (pre xs post : List UInt8) (hx : xs.length < 65536) :
    storedP most s (lob (pre ++ (head last xs.length ++ (xs ++ post)))) (8 * pre.length + 3) =
      if s.1.length + xs.length ≤ most then .ok (s.1 ++ xs, s.2 ++ lits xs) (8 * (pre.length + 5 + xs.length)) else .err 4 := by
  obtain ⟨n, hn⟩ : ∃ n, xs.length = n := ⟨_, rfl⟩
  rw [hn] at hx ⊢
  have b0 : (UInt8.ofNat n).toNat = n % 256 := by simp
  have b1 : (UInt8.ofNat (n / 256)).toNat = n / 256 := by simp; omega
  have b2 : (UInt8.ofNat (255 - n % 256)).toNat = 255 - n % 256 := by simp; omega
  have b3 : (UInt8.ofNat (255 - n / 256 % 256)).toNat = 255 - n / 256 := by simp; omega
  have l5 : (pre ++ [last]).length = pre.length + 1 := by simp
  have l7 : (pre ++ [last, UInt8.ofNat n, UInt8.ofNat (n / 256)]).length = pre.length + 3 := by simp
  have l9 : (pre ++ head last n).length = pre.length + 5 := by simp [head]
  have t1 := take_two (pre ++ [last]) (UInt8.ofNat n) (UInt8.ofNat (n / 256)) (UInt8.ofNat (255 - n % 256) :: UInt8.ofNat (255 - n / 256 % 256) :: (xs ++ post))
  have t2 := take_two (pre ++ [last, UInt8.ofNat n, UInt8.ofNat (n / 256)]) (UInt8.ofNat (255 - n % 256)) (UInt8.ofNat (255 - n / 256 % 256)) (xs ++ post)
  have t3 := nums_bytes xs (pre ++ head last n) post
  rw [l5, b0, b1, List.append_assoc] at t1
  rw [l7, b2, b3, List.append_assoc] at t2
  rw [l9, hn, List.append_assoc] at t3
  have e1 : n % 256 + 256 * (n / 256) = n := by omega
  have e2 : 255 - n % 256 + 256 * (255 - n / 256) = 65535 - n := by omega
  rw [e1] at t1
  rw [e2] at t2
  have hU : ∃ U, pre ++ (head last n ++ (xs ++ post)) = U := ⟨_, rfl⟩
  obtain ⟨U, hU⟩ := hU
  have u1 : pre ++ ([last] ++ UInt8.ofNat n :: UInt8.ofNat (n / 256) :: UInt8.ofNat (255 - n % 256) :: UInt8.ofNat (255 - n / 256 % 256) :: (xs ++ post)) = U := hU
  have u2 : pre ++ ([last, UInt8.ofNat n, UInt8.ofNat (n / 256)] ++ UInt8.ofNat (255 - n % 256) :: UInt8.ofNat (255 - n / 256 % 256) :: (xs ++ post)) = U := hU
  rw [u1] at t1
  rw [u2] at t2
  rw [hU] at t3 ⊢
  have a1 : align (lob U) (8 * pre.length + 3) = .ok () (8 * (pre.length + 1)) := by unfold align; congr 1; omega
  have k1 : numbers [16, 16] (lob U) (8 * (pre.length + 1)) = .ok [n, 65535 - n] (8 * (pre.length + 5)) := by
    show bind (take 16) (fun n => bind (numbers [16]) fun ns => pure (n :: ns)) _ _ = _
    rw [bind_ok t1, show 8 * (pre.length + 1) + 16 = 8 * (pre.length + 3) by omega]
    show bind (bind (take 16) (fun n => bind (numbers []) fun ns => pure (n :: ns))) (fun ns => pure (n :: ns)) _ _ = _
    rw [bind2_ok t2, show 8 * (pre.length + 3) + 16 = 8 * (pre.length + 5) by omega]
    rfl
  unfold storedP
  rw [bind_ok a1, bind_ok k1]
  show storedK most s n (65535 - n) (lob U) (8 * (pre.length + 5)) = _
  have hxr : bits .xor .i64 ((n : Nat) : Int) ((65535 - n : Nat) : Int) = 65535 := by
    rw [i64_xor_nat n (65535 - n) (by omega) (by omega), xor_full n hx]; rfl
  unfold storedK
  rw [if_pos hxr]
  by_cases hf : s.1.length + n ≤ most
  · rw [if_pos (show n ≤ most - s.1.length by omega), if_pos hf, bind_ok t3, adds_lits most _ _ xs s (by rw [hn]; exact hf)]
  · rw [if_neg (show ¬ n ≤ most - s.1.length by omega), if_neg hf]
    rfl
end Ip
end Go.Proofs.YtbohhdakbgnaeaaDoor
end

section
namespace Go.Proofs.YtbohhdakbgnaeaaDoor
open Go.RowKit

def dyn0 : Unp → Ip.Pr Unp := fun _ => Ip.fail 99
theorem mono_dyn0 (s : Unp) : Ip.Mono (dyn0 s) := Ip.mono_fail 99
set_option maxRecDepth 100000 in
theorem alive_val : Ip.unpP dyn0 9 (lob [0x4b, 0x04, 0x00]) 0 = .ok ([97], [(0, 97)]) 18 := by kernel_rfl
end Go.Proofs.YtbohhdakbgnaeaaDoor
end

section
namespace Go.Proofs.YtbohhdakbgnaeaaDoor
open Go.RowKit

namespace Ip
theorem mark_blk (b : Bool) (pre post : List UInt8) : numbers [1, 2] (lob (pre ++ (if b then 1 else 0 : UInt8) :: post)) (8 * pre.length) = .ok [b.toNat, 0] (8 * pre.length + 3) := by
  have hl : 8 * pre.length + 8 ≤ (lob (pre ++ (if b then 1 else 0 : UInt8) :: post)).length := by rw [lob_length, List.length_append, List.length_cons]; omega
  have hd : (lob (pre ++ (if b then 1 else 0 : UInt8) :: post)).drop (8 * pre.length) = [b, false, false, false, false, false, false, false] ++ lob post := by
    rw [lob_append, List.drop_left' (lob_length pre), lob_cons]
    cases b <;> rfl
  have h1 : take 1 (lob (pre ++ (if b then 1 else 0 : UInt8) :: post)) (8 * pre.length) = .ok b.toNat (8 * pre.length + 1) := by
    unfold take
    rw [if_pos (by omega), hd]
    cases b <;> rfl
  have h2 : take 2 (lob (pre ++ (if b then 1 else 0 : UInt8) :: post)) (8 * pre.length + 1) = .ok 0 (8 * pre.length + 1 + 2) := by
    unfold take
    rw [if_pos (by omega), ← List.drop_drop, hd]
    rfl
  show bind (take 1) (fun n => bind (numbers [2]) fun ns => pure (n :: ns)) _ _ = _
  rw [bind_ok h1]
  show bind (bind (take 2) (fun n => bind (numbers []) fun ns => pure (n :: ns))) (fun ns => pure (b.toNat :: ns)) _ _ = _
  rw [bind2_ok h2]
  rfl
/-- The blocks, one behind another. -/
def packB : List (List UInt8) → List UInt8 → List UInt8
  | [], xs => head 1 xs.length ++ (xs ++ [])
  | c :: cs, xs => head 0 c.length ++ (c ++ packB cs xs)
theorem step_blk (dyn : Unp → Pr Unp) (most : Nat) (s : Unp) (hs : s.1.length ≤ most) (b : Bool) (pre xs post : List UInt8) (hx : xs.length < 65536) :
    unpStep dyn most s (lob (pre ++ (head (if b then 1 else 0) xs.length ++ (xs ++ post)))) (8 * pre.length) =
      if s.1.length + xs.length ≤ most then .ok (if b.toNat = 1 then .inr (s.1 ++ xs, s.2 ++ lits xs) else .inl (s.1 ++ xs, s.2 ++ lits xs)) (8 * (pre.length + 5 + xs.length)) else .err 4 := by
  have hst := stored_blk most s hs (if b then 1 else 0) pre xs post hx
  have hm := mark_blk b pre ((head (if b then 1 else 0) xs.length).tail ++ (xs ++ post))
  have e : pre ++ (if b then 1 else 0 : UInt8) :: ((head (if b then 1 else 0) xs.length).tail ++ (xs ++ post)) = pre ++ (head (if b then 1 else 0) xs.length ++ (xs ++ post)) := rfl
  rw [e] at hm
  generalize pre ++ (head (if b then 1 else 0) xs.length ++ (xs ++ post)) = U at *
  unfold unpStep
  rw [bind_ok hm]
  show bind (blockP dyn most s 0) (fun s' => pure (if b.toNat = 1 then Sum.inr s' else Sum.inl s')) (lob U) (8 * pre.length + 3) = _
  by_cases hf : s.1.length + xs.length ≤ most
  · rw [if_pos hf] at hst ⊢
    have h0 : blockP dyn most s 0 (lob U) (8 * pre.length + 3) = _ := hst
    rw [bind_ok h0]; rfl
  · rw [if_neg hf] at hst ⊢
    have h0 : blockP dyn most s 0 (lob U) (8 * pre.length + 3) = _ := hst
    rw [bind_err h0]
theorem lits_append (x y : List UInt8) : lits (x ++ y) = lits x ++ lits y := by simp [lits]
theorem unp_blk (dyn : Unp → Pr Unp) (most : Nat) (xs : List UInt8) (hx : xs.length < 65536) : ∀ (cs : List (List UInt8)) (f : Nat) (s : Unp) (pre : List UInt8), s.1.length ≤ most → (∀ c ∈ cs, c.length < 65536) → cs.length < f →
    loop (unpStep dyn most) f s (lob (pre ++ packB cs xs)) (8 * pre.length) = if s.1.length + (cs.flatten ++ xs).length ≤ most then .ok (s.1 ++ (cs.flatten ++ xs), s.2 ++ lits (cs.flatten ++ xs)) (8 * (pre ++ packB cs xs).length) else .err 4
  | [], f, s, pre, hs, hc, hf => by
    obtain ⟨f, rfl⟩ : ∃ g, f = g + 1 := ⟨f - 1, by simp at hf; omega⟩
    have h1 := step_blk dyn most s hs true pre xs [] hx
    rw [show (([] : List (List UInt8)).flatten ++ xs) = xs from rfl]
    show bind (unpStep dyn most s) (next (loop (unpStep dyn most) f)) _ _ = _
    by_cases hq : s.1.length + xs.length ≤ most
    · rw [if_pos hq] at h1
      have h2 : unpStep dyn most s (lob (pre ++ packB [] xs)) (8 * pre.length) = _ := h1
      have el : (pre ++ packB [] xs).length = pre.length + 5 + xs.length := by simp [packB, head_length]; omega
      rw [bind_ok h2, if_pos hq, el]
      rfl
    · rw [if_neg hq] at h1
      have h2 : unpStep dyn most s (lob (pre ++ packB [] xs)) (8 * pre.length) = _ := h1
      rw [bind_err h2, if_neg hq]
  | c :: cs, f, s, pre, hs, hc, hf => by
    obtain ⟨f, rfl⟩ : ∃ g, f = g + 1 := ⟨f - 1, by simp at hf; omega⟩
    have h1 := step_blk dyn most s hs false pre c (packB cs xs) (hc c List.mem_cons_self)
    show bind (unpStep dyn most s) (next (loop (unpStep dyn most) f)) _ _ = _
    have hfl : ((c :: cs).flatten ++ xs).length = c.length + (cs.flatten ++ xs).length := by simp [Nat.add_assoc]
    rw [hfl]
    by_cases hq : s.1.length + c.length ≤ most
    · rw [if_pos hq] at h1
      have h2 : unpStep dyn most s (lob (pre ++ packB (c :: cs) xs)) (8 * pre.length) = _ := h1
      rw [bind_ok h2]
      have ih := unp_blk dyn most xs hx cs f (s.1 ++ c, s.2 ++ lits c) (pre ++ (head 0 c.length ++ c)) (by rw [List.length_append]; exact hq) (fun d hd => hc d (List.mem_cons_of_mem _ hd)) (by simp at hf; omega)
      have e : pre ++ (head 0 c.length ++ c) ++ packB cs xs = pre ++ packB (c :: cs) xs := by
        show _ = pre ++ (head 0 c.length ++ (c ++ packB cs xs))
        simp only [List.append_assoc]
      have el : (pre ++ (head 0 c.length ++ c)).length = pre.length + 5 + c.length := by simp [head_length]; omega
      rw [e, el] at ih
      show loop (unpStep dyn most) f (s.1 ++ c, s.2 ++ lits c) _ (8 * (pre.length + 5 + c.length)) = _
      rw [ih]
      dsimp only
      rw [List.length_append, Nat.add_assoc, List.flatten_cons]
      simp only [List.append_assoc, lits_append]
    · rw [if_neg hq] at h1
      have h2 : unpStep dyn most s (lob (pre ++ packB (c :: cs) xs)) (8 * pre.length) = _ := h1
      rw [bind_err h2, if_neg (by omega)]
end Ip
end Go.Proofs.YtbohhdakbgnaeaaDoor
end

section
namespace Go.Proofs.YtbohhdakbgnaeaaDoor
open Go.RowKit

theorem Bs.take {w : World} {a : Option Addr} {len cap : Nat} {l : List UInt8} (h : Bs w a len cap l) (k : Nat) (hk : k ≤ len) : Bs w a k cap (l.take k) := by
  have h1 := h.hlen
  have h2 := h.hle
  have h3 := h.hcap
  refine ⟨by simp; omega, by omega, by omega, h.hmax, h.hnil, fun i hi => ?_⟩
  obtain ⟨b, off, e, hb, hc⟩ := h.at' i (by omega)
  refine ⟨b, off, e, hb, ?_⟩
  rw [hc]
  simp [gb, List.getD, List.getElem?_take, hi]
end Go.Proofs.YtbohhdakbgnaeaaDoor
end

section
namespace Go.Proofs.YtbohhdakbgnaeaaDoor
open Go.RowKit

namespace Ip
/-- Blocks that aren't the last. -/
def pk (cs : List (List UInt8)) : List UInt8 := cs.flatMap fun c => head 0 c.length ++ c
theorem pk_snoc (cs : List (List UInt8)) (c : List UInt8) : pk (cs ++ [c]) = pk cs ++ (head 0 c.length ++ c) := by simp [pk]
theorem pack_eq (xs : List UInt8) : ∀ cs, packB cs xs = pk cs ++ (head 1 xs.length ++ xs)
  | [] => by simp [packB, pk]
  | c :: cs => by
    show head 0 c.length ++ (c ++ packB cs xs) = _
    rw [pack_eq xs cs]
    show _ = (head 0 c.length ++ c ++ pk cs) ++ _
    simp only [List.append_assoc]
/-- Where the loop stands: so many blocks, so many bytes. -/
def Sb (l : List UInt8) (m i at' : Nat) (p : List UInt8) : Prop :=
  at' ≤ l.length ∧ p.length = 5 * i + at' ∧
  ((i ≤ m ∧ ∃ cs, p = pk cs ∧ cs.flatten = l.take at' ∧ cs.length = i ∧ ∀ c ∈ cs, c.length ≤ l.length) ∨
   (i = m + 1 ∧ ∃ cs xs, p = packB cs xs ∧ cs.flatten ++ xs = l ∧ cs.length = m ∧ (∀ c ∈ cs, c.length ≤ l.length) ∧ xs.length ≤ l.length))
theorem sb_zero (l : List UInt8) (m : Nat) : Sb l m 0 0 [] := ⟨by omega, rfl, .inl ⟨by omega, [], rfl, by simp, rfl, fun c hc => absurd hc (by simp)⟩⟩
theorem sb_next {l : List UInt8} {m i t k : Nat} {p : List UInt8} (h : Sb l m i t p) (hi : i < m) (hk : t + k ≤ l.length) :
    Sb l m (i + 1) (t + k) (p ++ (head 0 k ++ (l.drop t).take k)) := by
  obtain ⟨h1, h2, ⟨h3, cs, rfl, h5, h6, h7⟩ | ⟨h3, _⟩⟩ := h
  · have hl : ((l.drop t).take k).length = k := by rw [List.length_take, List.length_drop]; omega
    refine ⟨hk, by rw [List.length_append, List.length_append, head_length, hl, h2]; omega, .inl ⟨by omega, cs ++ [(l.drop t).take k], ?_, ?_, by simp [h6], ?_⟩⟩
    · rw [pk_snoc, hl]
    · rw [List.flatten_append, h5, List.flatten_cons, List.flatten_nil, List.append_nil, List.take_add]
    · intro c hc
      rcases List.mem_append.1 hc with hc | hc
      · exact h7 c hc
      · simp only [List.mem_singleton] at hc
        subst hc; omega
  · omega
theorem sb_last {l : List UInt8} {m t : Nat} {p : List UInt8} (h : Sb l m m t p) :
    Sb l m (m + 1) l.length (p ++ (head 1 (l.length - t) ++ (l.drop t).take (l.length - t))) := by
  obtain ⟨h1, h2, ⟨h3, cs, rfl, h5, h6, h7⟩ | ⟨h3, _⟩⟩ := h
  · have hl : (l.drop t).take (l.length - t) = l.drop t := List.take_of_length_le (by simp)
    have hl2 : (l.drop t).length = l.length - t := List.length_drop
    rw [hl]
    refine ⟨Nat.le_refl _, by rw [List.length_append, List.length_append, head_length, hl2, h2]; omega, .inr ⟨rfl, cs, l.drop t, ?_, ?_, h6, h7, by omega⟩⟩
    · rw [pack_eq, hl2]
    · rw [h5, List.take_append_drop]
  · omega
theorem sb_end {l : List UInt8} {m t : Nat} {p : List UInt8} (h : Sb l m (m + 1) t p) (hl : l.length < 65536) (hm : m ≤ 50) (dyn : Unp → Pr Unp) (most : Nat) :
    unpP dyn most (lob p) 0 = if l.length ≤ most then .ok (l, lits l) (8 * p.length) else .err 4 := by
  obtain ⟨h1, h2, ⟨h3, _⟩ | ⟨_, cs, xs, rfl, h5, h6, h7, h8⟩⟩ := h
  · omega
  · have := unp_blk dyn most xs (by omega) cs big ([], []) [] (by simp) (fun c hc => by have := h7 c hc; omega) (by unfold big; omega)
    rw [h5] at this
    simp only [List.nil_append, List.length_nil, Nat.zero_add, Nat.mul_zero] at this
    exact this
theorem xor_u8 : ∀ x : Nat, x < 256 → bits .xor .u8 IntKind.u8.max ((x : Nat) : Int) = ((255 - x : Nat) : Int) := by decide +kernel
theorem head_cells (last : UInt8) (q : Nat) (x : Int) (hx : x = ((last.toNat : Nat) : Int)) (hq : q < 65536) : (bvs (head last q)).toArray = #[.int .u8 x, .int .u8 ((q : Int) % 256), .int .u8 ((q : Int) / 256), .int .u8 (bits .xor .u8 IntKind.u8.max ((q : Int) % 256)), .int .u8 (bits .xor .u8 IntKind.u8.max ((q : Int) / 256))] := by
  subst hx
  have e1 : ((q : Int) % 256) = ((q % 256 : Nat) : Int) := by omega
  have e2 : ((q : Int) / 256) = ((q / 256 % 256 : Nat) : Int) := by omega
  rw [e1, e2, xor_u8 _ (by omega), xor_u8 _ (by omega)]
  have u : ∀ m : Nat, m < 256 → (UInt8.ofNat m).toNat = m := fun m hm => by rw [UInt8.toNat_ofNat']; omega
  have u1 : (UInt8.ofNat q).toNat = q % 256 := by rw [UInt8.toNat_ofNat']
  have u2 : (UInt8.ofNat (q / 256)).toNat = q / 256 % 256 := by rw [UInt8.toNat_ofNat']
  simp only [bvs, head, List.map_cons, List.map_nil, u1, u2, u _ (show 255 - q % 256 < 256 by omega), u _ (show 255 - q / 256 % 256 < 256 by omega)]
/-- How many bytes a cut takes. -/
theorem cut_nat (c : Int) (len k : Nat) (hk : k ≤ len) (hl : len ≤ 1000000) : ∃ q : Nat, wrap64 ((IntKind.u64.wrap c).tmod ((len : Int) - (k : Int) + 1)) = (q : Int) ∧ q ≤ len - k := by
  have h0 : 0 ≤ IntKind.u64.wrap c := by simp only [IntKind.wrap, IntKind.signed, IntKind.bits]; simp; omega
  refine ⟨((IntKind.u64.wrap c).tmod ((len : Int) - (k : Int) + 1)).toNat, ?_, ?_⟩
  · have h1 := Int.tmod_nonneg ((len : Int) - (k : Int) + 1) h0
    have h2 := Int.tmod_lt_of_pos (IntKind.u64.wrap c) (show 0 < (len : Int) - (k : Int) + 1 by omega)
    rw [show wrap64 ((IntKind.u64.wrap c).tmod ((len : Int) - (k : Int) + 1)) = (IntKind.u64.wrap c).tmod ((len : Int) - (k : Int) + 1) from IntWalk.wrap64_in _ ⟨by omega, by omega⟩]
    omega
  · have h1 := Int.tmod_nonneg ((len : Int) - (k : Int) + 1) h0
    have h2 := Int.tmod_lt_of_pos (IntKind.u64.wrap c) (show 0 < (len : Int) - (k : Int) + 1 by omega)
    omega
end Ip
end Go.Proofs.YtbohhdakbgnaeaaDoor
end

section
namespace Go.Proofs.YtbohhdakbgnaeaaDoor
open Go.RowKit

theorem num_nil (w : World) : Calls Tryd.prog 17 #[.nilIface] w fun e w' => e = .returned (.int .i64 0) ∧ w = w' := by
  go_enter Tryd.func17, Tryd.ntmps17
  go_wp2
  go_ret
  exact ⟨rfl, rfl⟩
theorem num_err (n : Int) (h0 : (n == 0) = false) (w : World) : Calls Tryd.prog 17 #[.iface 35 (.int .i64 n)] w fun e w' => e = .returned (.int .i64 n) ∧ w = w' := by
  have hta : ∀ (x : Int) (w : World), (Instr.typeAssert (.iface 35 (.int .i64 x)) 25 35 true).run Tryd.prog w = .ok (.tuple #[.int .i64 x, .bool true]) w := fun _ _ => by kernel_rfl
  go_enter Tryd.func17, Tryd.ntmps17
  go_wp2
  go_ret
  exact ⟨rfl, rfl⟩
end Go.Proofs.YtbohhdakbgnaeaaDoor
end
